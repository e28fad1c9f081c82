import Derived.Test.YtgflalfiopnmnabDoorFzWpr
import Derived.Test.YtgflalfiopnmnabDoorFzSvl
import Derived.Test.YtgflalfiopnmnabDoorGrSp
import Derived.Test.YtgflalfiopnmnabDoorGrSz
import Derived.ProofKit
import Derived.OpenShut
import Derived.ShutString
import Derived.ChangeOld
import Derived.Lib.SmallJoins
import Derived.Deep.Slices
import Derived.Test.YtgflalfiopnmnabDoorFzPure
import Derived.Deep.RegionHeld3
import Derived.Test.YtgflalfiopnmnabDoorCards
import Derived.Test.YtgflalfiopnmnabDoorTie
import Derived.Lib.LaidTab
import Derived.ChangeVars
import Derived.MakeChecks
import Derived.Stop.LaidErr
import Derived.Stop.JoinedAt
import Derived.Deep.DeepHandedRow
import Derived.Deep.DeepLaidRun
import Derived.WalkSmall
namespace Go.Proofs.YtgflalfiopnmnabDoor
open Go.RowKit Vl

/-- A map over tables, asked. -/
theorem lookup_tab {n : Nat} {w0 w : World} {MB : Nat} {T M : Nat → Nat} {at_ : Nat → Int} {L : Nat → Nat} {K X : Nat → Nat → V} {S : List Nat} {q : Nat → Nat} (h : MapG ptr w MB (tabL T S (fun j => .int .i64 (q j : Nat)))) (hb : Below w0.heap.size w0 w) (hT : Tbs w0 n T M at_ L K X) (hF : Fit n S) (hL : ∀ i, i ∉ S → q i = 0) {r : Nat} (hr : r < n) :
    (Instr.lookup 48 (.map (some MB)) (ptr (T r)) false).run Tryd.prog w = .ok (.int .i64 (q r : Nat)) w ∧
    (Instr.lookup 48 (.map (some MB)) (ptr (T r)) true).run Tryd.prog w = .ok (.tuple #[.int .i64 (q r : Nat), .bool (decide (r ∈ S))]) w := by
  have hB : ∀ j, j < n → IsB w (T j) := fun j hj => by
    obtain ⟨ord, h1, _⟩ := hT.tab j hj
    exact ⟨_, _, (hb.block _ (blk_lt h1)).trans h1⟩
  have hok : ∀ p ∈ tabL T S (fun j => .int .i64 (q j : Nat)), IsB w p.1 := fun p hp => by
    obtain ⟨j, hj, rfl⟩ := List.mem_map.1 hp
    exact hB j (hF.lt j hj)
  have hf := find_tab T (fun j => .int .i64 (q j : Nat)) r S (fun i hi e => hT.inj i r (hF.lt i hi) hr e)
  have h1 := (h.lookup leads_keyed (T r) (hB r hr) hok)
  rw [hf] at h1
  by_cases hm : r ∈ S
  · rw [if_pos hm] at h1
    refine ⟨h1.2, ?_⟩
    rw [decide_eq_true hm]
    exact h1.1
  · rw [if_neg hm] at h1
    rw [hL r hm]
    refine ⟨h1.2, ?_⟩
    rw [decide_eq_false hm]
    exact h1.1

/-- A label is given. -/
theorem WtW.label {w0 w : World} {WB QM LM base n : Nat} {T M : Nat → Nat} {at_ : Nat → Int} {L : Nat → Nat} {K X : Nat → Nat → V} {S0 : List Nat} {Q : Nat → Nat} {t : Ft} {buf : Value} (h : WtW w0 w WB QM LM base n T S0 Q t buf) (hB : WrB w0 WB QM LM base) (hT : Tbs w0 n T M at_ L K X) {r : Nat} (hr : r < n) (hl : t.lab r = 0) :
    (∃ es clk, w.heap[LM]? = some (.map es clk) ∧ es.size = t.N) ∧ ∃ w', (Instr.mapUpdate 48 (.map (some LM)) (ptr (T r)) (.int .i64 (t.N + 1 : Nat))).run Tryd.prog w = .ok () w' ∧ WtW w0 w' WB QM LM base n T S0 Q ⟨t.N + 1, fun i => if i = r then t.N + 1 else t.lab i, t.out⟩ buf ∧ Only (fun k => k = LM) w w' := by
  obtain ⟨ls, hF, hi, hlen, hM⟩ := h.labs
  have hm : r ∉ ls := fun e => by have := (hi r).1 e; omega
  have hIB : ∀ j, j < n → IsB w (T j) := fun j hj => by
    obtain ⟨ord, h1, _⟩ := hT.tab j hj
    exact ⟨_, _, (h.bel.block _ (blk_lt h1)).trans h1⟩
  have hok : ∀ p ∈ tabL T ls (fun j => .int .i64 (t.lab j : Nat)), IsB w p.1 := fun p hp => by
    obtain ⟨j, hj, rfl⟩ := List.mem_map.1 hp
    exact hIB j (hF.lt j hj)
  refine ⟨?_, ?_⟩
  · obtain ⟨es, clk, a, b⟩ := hM.len
    exact ⟨es, clk, a, by rw [b]; simpa using hlen⟩
  have hf := find_tab T (fun j => .int .i64 (t.lab j : Nat)) r ls (fun i hi e => hT.inj i r (hF.lt i hi) hr e)
  rw [if_neg hm] at hf
  obtain ⟨w', a, b, c, d⟩ := hM.update leads_keyed (T r) (.int .i64 (t.N + 1 : Nat)) (hIB r hr) hok hf
  obtain ⟨_, _, _, hk⟩ := owns_form h.st.own
  have o2 : buf.ownBlock ≠ some LM := fun e => by have := (hk _ e).1; have := hB.lmb; omega
  refine ⟨w', a, ⟨⟨?_, c.ownsB h.st.own (fun g hg e => o2 (by rw [hg, e]))⟩, h.lead.same (c.block _ h.lead.lt hB.n3), ?_, h.bel.trans (c.toBelow (fun k hk => by subst hk; exact hB.lm) h.bel.size)⟩, c⟩
  · obtain ⟨p, hp, hb⟩ := h.st.blk
    exact ⟨p, hp, (c.block _ (blk_lt hb) hB.n1).trans hb⟩
  · refine ⟨ls ++ [r], (hF.add hr hm).fit, fun i => ?_, by simp [hlen], ?_⟩
    · show i ∈ ls ++ [r] ↔ 0 < (if i = r then t.N + 1 else t.lab i)
      by_cases e : i = r
      · subst e; simp
      · rw [if_neg e, ← hi i]; simp [e]
    · have e1 : ls.map (fun j => (T j, Value.int .i64 ((if j = r then t.N + 1 else t.lab j : Nat) : Nat))) = ls.map (fun j => (T j, .int .i64 (t.lab j : Nat))) := List.map_congr_left (fun i hi' => by
        have hne : i ≠ r := fun e => hm (e ▸ hi')
        rw [if_neg hne])
      show MapG ptr w' LM (tabL T (ls ++ [r]) (fun j => .int .i64 ((if j = r then t.N + 1 else t.lab j : Nat) : Nat)))
      unfold tabL
      rw [List.map_append, e1]
      simpa using b

set_option maxHeartbeats 4000000 in
set_option maxRecDepth 100000 in
/-- '(*writer).table'. -/
theorem wTable_any (w0 : World) (n : Nat) (T M : Nat → Nat) (at_ : Nat → Int) (L : Nat → Nat) (K X : Nat → Nat → V) (WB QM LM base : Nat) (S0 : List Nat) (Q : Nat → Nat) (HE : Hid (Env w0 n T M at_ L K X WB QM LM base S0 Q)) (f : Nat) (ih : WtV w0 n T L K X WB QM LM base S0 Q f)
    (S : List Nat) (Q0 : Nat → Nat) (t : Ft) (v : V) (h4 : v.k = 4) (r : Nat) (hr : v.a.toNat = r) (hrn : r < n) (w : World) (buf : Value) (HA : Hid (Wat n Q L X (f + 1) S Q0 t v)) (hlen : (frz Q L K X (f + 1) t v).out.length ≤ 100000000) (hbw : base ≤ w.heap.size) (HW : Hid (WtW w0 w WB QM LM base n T S0 Q t buf)) :
    Calls Tryd.prog 33 #[.pointer (some ⟨WB, 0, none⟩), ptr (T r)] w fun e w' => e = .returned (.tuple #[]) ∧ ∃ buf', WSt w0 w' WB QM LM base n T S0 Q (frz Q L K X (f + 1) t v) buf' ∧ FrV WB LM buf buf' w w' := by
  have HIH : Hid (WtV w0 n T L K X WB QM LM base S0 Q f) := ih
  clear ih
  have hWB : WB < base := HE.out.wrb.wbb
  have HTB : Hid (Tbs w0 n T M at_ L K X) := HE.out.tbs
  have HTab : Hid (Tab w) := Tab.env HE.out HW.out.bel
  obtain ⟨p, hp, hblk⟩ := HW.out.st.blk
  obtain ⟨x0, x1, _, _, _, _⟩ := four_at hblk
  clear hp hblk
  have hN : t.N ≤ 200 := by have := HA.out.ok.few; have := HA.out.fit.len; have := HE.out.len; omega
  have hlabN : t.lab r ≤ 200 := Nat.le_trans (HA.out.ok.top r) hN
  obtain ⟨ls, hF, hi, hll, hM⟩ := HW.out.labs
  have hlk := (lookup_tab hM HW.out.bel HTB.out hF (fun i hi' => by have := mt (hi i).2 hi'; omega) hrn).2
  have hld := (lookup_tab HW.out.lead HW.out.bel HTB.out HE.out.fit (fun i hi' => (HE.out.led i).2 hi') hrn).1
  have HWS : Hid (WrS w WB QM LM base buf t.out) := HW.out.st
  by_cases hlab : 0 < t.lab r
  · have HEq : Hid (frz Q L K X (f + 1) t v = t.say (35 :: Lib.itoa (t.lab r : Nat))) := by
      have := wr_old (Q := Q) (L := L) (K := K) (X := X) (f := f) (t := t) h4 (by rw [hr]; exact hlab)
      rw [hr] at this
      exact this
    rw [HEq.out] at hlen ⊢
    rw [say_len] at hlen
    rw [decide_eq_true ((hi r).2 hlab)] at hlk
    have hit := itoa_any (t.lab r : Nat) (by omega) (by omega) w (HTab.out w (Below.refl _ _))
    have hsl : (Lib.itoa (t.lab r : Nat)).length ≤ 20 := itoa_len (by omega) (by omega)
    obtain ⟨str, hstr⟩ : ∃ str : ByteArray, ⟨(Lib.itoa (t.lab r : Nat)).toArray⟩ = str := ⟨_, rfl⟩
    have HCS : Hid (catS [⟨#[35]⟩, str] = 35 :: Lib.itoa (t.lab r : Nat)) := by rw [← hstr]; show _ = _; simp [catS]
    rw [hstr] at hit
    have HC : Hid (∀ w3, Below w.heap.size w w3 → Calls Tryd.prog 46 #[.pointer (some ⟨WB, 0, none⟩), .slice (some ⟨w3.heap.size, 0, none⟩) 2 2] (w3.alloc (.cells #[.string ⟨#[35]⟩, .string str] 9)) fun e w' => e = .returned (.tuple #[]) ∧ ∃ buf', WrS w' WB QM LM base buf' (t.out ++ catS [⟨#[35]⟩, str]) ∧ FrV WB WB buf buf' w w') :=
      fun w3 hb => putL WB QM LM base buf t.out [⟨#[35]⟩, str] w w3 w3.heap.size 2 rfl rfl (by omega) hWB hbw (by rw [HCS.out]; simp only [List.length_cons] at hlen ⊢; omega) HWS hb
    clear hsl hstr hlen hld
    obtain ⟨lv, hlv⟩ : ∃ lv : Nat, t.lab r = lv := ⟨_, rfl⟩
    rw [hlv] at hlk hit
    clear hlab hlabN h4 hr hM hi hll hF
    go_enter Tryd.func33, Tryd.ntmps33
    go_wp2_with (go_at_call 47; refine hit.mono ?_; rintro e w3 ⟨rfl, hx⟩)
    have hb3 : Below w.heap.size w w3 := by obtain ⟨q, os, hw'⟩ := hx; rw [hw']; exact tab_grow
    have hc := HC.out w3 hb3
    clear HC hx hb3 hit
    go_wp2_with (go_at_call 46; refine hc.mono ?_)
    rintro e w4 ⟨rfl, b4, hS4, hF4⟩
    rw [HCS.out] at hS4
    have HEnd : Hid (WSt w0 w4 WB QM LM base n T S0 Q (t.say (35 :: Lib.itoa (t.lab r : Nat))) b4) := Or.inl (HW.out.say HE.out.wrb hS4 hF4)
    have HFE : Hid (FrV WB LM buf b4 w w4) := hF4.wide
    clear hc hS4 hF4
    go_wp2
    refine bodyPost_ret (results_none rfl _ _ _) rfl ?_
    exact ⟨rfl, b4, HEnd.out, HFE.out⟩
  · have hl0 : t.lab r = 0 := by omega
    have hmS : r ∉ S := fun hm => by
      have := HA.out.old h4 (by rw [hr]; exact hm)
      rw [hr] at this
      exact hlab this
    have HEq : Hid (frz Q L K X (f + 1) t v = (wrs Q L K X f (t.head Q r) r (L r)).say [125]) := by
      have := wr_new (Q := Q) (L := L) (K := K) (X := X) (f := f) (t := t) h4 (by rw [hr]; exact hl0)
      rw [hr] at this
      exact this
    rw [HEq.out] at hlen ⊢
    rw [say_len] at hlen
    have HLP : Hid ((wrs Q L K X f (t.head Q r) r (L r)).out.length ≤ 100000000) := show _ ≤ _ by omega
    have HLH : Hid ((t.head Q r).out.length ≤ 100000000) := by
      have h1 := wrs_mono (Q := Q) (L := L) (K := K) (X := X) f (t.head Q r) r (c := 0) (d := L r) (Nat.zero_le _)
      rw [wrs_zero] at h1
      exact Nat.le_trans h1 HLP.out
    have HMi : Hid (Wmid n Q L X f (S ++ [r]) (bump Q0 r) (t.head Q r) r 0) := by
      have := HA.out.into h4 (by rw [hr]; exact hmS)
      rw [hr] at this
      exact this
    have hlo0 : t.out.length ≤ 100000000 := by have := head_len (Q := Q) t r; have := HLH.out; omega
    rw [decide_eq_false (fun e => hlab ((hi r).1 e))] at hlk
    have hqb := HE.out.q r
    by_cases hq : 1 < Q r
    · have hqi : (1 : Int) < ((Q r : Nat) : Int) := by omega
      obtain ⟨⟨es, clk, hes, hesz⟩, w1, hup, hW1, hO1'⟩ := (HW.out.below (Below.refl _ _).drew).label HE.out.wrb HTB.out hrn hl0
      have hO1 : Only (fun k => k = LM) w w1 := (Only.below (Below.refl _ _).drew).trans hO1'
      have hln : (Builtin.len_ #[48] 3 #[.map (some LM)]).run Tryd.prog w.drew = .ok (.int .i64 (es.size : Nat)) w.drew := by simp [Builtin.len_, run_underlying Tryd.underlying48, MapKept.run_getObj_map hes, goInt]
      have HW1 : Hid (WtW w0 w1 WB QM LM base n T S0 Q ⟨t.N + 1, fun i => if i = r then t.N + 1 else t.lab i, t.out⟩ buf) := hW1
      have HF1 : Hid (FrV WB LM buf buf w w1) := ⟨hO1.mono (fun k _ e => Or.inr (Or.inl e)), fun _ _ h => h⟩
      have HO1 : Hid (Only (fun k => k = LM) w w1) := hO1
      have hz1 : base ≤ w1.heap.size := Nat.le_trans hbw HF1.out.only.size
      obtain ⟨p1, hp1, hblk1⟩ := HW1.out.st.blk
      obtain ⟨y0, y1, _, _, _, _⟩ := four_at hblk1
      obtain ⟨ls1, hF1', hi1, hll1, hM1⟩ := HW1.out.labs
      have hlk1 := (lookup_tab hM1 HW1.out.bel HTB.out hF1' (fun i hi' => by have := mt (hi1 i).2 hi'; omega) hrn).1
      simp only [if_true] at hlk1
      have HS1 : Hid (WrS w1 WB QM LM base buf t.out) := HW1.out.st
      have HT1 : Hid (Tab w1) := Tab.env HE.out HW1.out.bel
      obtain ⟨q1, hq1⟩ : ∃ q1 : Nat, t.N + 1 = q1 := ⟨_, rfl⟩
      have hit := itoa_any (q1 : Nat) (by omega) (by omega)
      have hsl : (Lib.itoa (q1 : Nat)).length ≤ 20 := itoa_len (by omega) (by omega)
      obtain ⟨str, hstr⟩ : ∃ str : ByteArray, ⟨(Lib.itoa (q1 : Nat)).toArray⟩ = str := ⟨_, rfl⟩
      have HCS : Hid (catS [⟨#[35]⟩, str, ⟨#[61]⟩] = 35 :: (Lib.itoa (q1 : Nat) ++ [61])) := by rw [← hstr]; show _ = _; simp [catS]
      rw [hstr] at hit
      have HIt : Hid _ := hit
      have HC : Hid (∀ wq w3, WrS wq WB QM LM base buf t.out → base ≤ wq.heap.size → Below wq.heap.size wq w3 → Calls Tryd.prog 46 #[.pointer (some ⟨WB, 0, none⟩), .slice (some ⟨w3.heap.size, 0, none⟩) 3 3] (w3.alloc (.cells #[.string ⟨#[35]⟩, .string str, .string ⟨#[61]⟩] 9)) fun e w' => e = .returned (.tuple #[]) ∧ ∃ buf', WrS w' WB QM LM base buf' (t.out ++ catS [⟨#[35]⟩, str, ⟨#[61]⟩]) ∧ FrV WB WB buf buf' wq w') :=
        fun wq w3 hs hz hb => putL WB QM LM base buf t.out [⟨#[35]⟩, str, ⟨#[61]⟩] wq w3 w3.heap.size 3 rfl rfl (by omega) hWB hz (by rw [HCS.out]; simp only [List.length_cons, List.length_append, List.length_nil]; omega) hs hb
      have HTH : Hid ((Ft.mk (t.N + 1) (fun i => if i = r then t.N + 1 else t.lab i) (t.out ++ (35 :: (Lib.itoa (q1 : Nat) ++ [61])))).say [123] = t.head Q r) := by
        show _ = _
        unfold Ft.head
        rw [if_pos hq, hq1]
        rfl
      rw [hq1] at hlk1 hup HW1 HTH
      have hadd : ((es.size : Nat) : Int) + 1 = (q1 : Int) := by omega
      have hwrp : IntKind.i64.wrap (((es.size : Nat) : Int) + 1) = (q1 : Int) := by rw [hadd, IntKind.wrap_i64]; omega
      have HUP0 : Hid ((Instr.mapUpdate 48 (.map (some LM)) (ptr (T r)) (.int .i64 (q1 : Nat))).run Tryd.prog w.drew = .ok () w1) := hup
      clear hstr hsl hit hq hq1 hW1 hO1 hblk1 hp1 hM1 hi1 hll1 hF1' hM hi hll hF hlab hlabN h4 hr hmS hl0 hesz hadd hlo0 hlen hO1'
      obtain ⟨lv, hlv⟩ : ∃ lv : Nat, t.lab r = lv := ⟨_, rfl⟩
      obtain ⟨qv, hqv⟩ : ∃ qv : Nat, Q r = qv := ⟨_, rfl⟩
      rw [hlv] at hlk
      rw [hqv] at hld hqi hqb
      clear hlv hqv
      go_enter Tryd.func33, Tryd.ntmps33
      go_wp2
      go_region
      go_wp2_with (go_at_call 47; refine (HIt.out w1 (HT1.out w1 (Below.refl _ _))).mono ?_; rintro e w3 ⟨rfl, hx⟩)
      have hb3 : Below w1.heap.size w1 w3 := by obtain ⟨q, os, hw'⟩ := hx; rw [hw']; exact tab_grow
      have hc := HC.out w1 w3 HS1.out hz1 hb3
      clear HC hx hb3 hlk hld hlk1 hup hln hes x0 x1 y0 y1
      go_wp2_with (go_at_call 46; refine hc.mono ?_)
      rintro e w4 ⟨rfl, b4, hS4, hF4⟩
      rw [HCS.out] at hS4
      have hW4 := HW1.out.say HE.out.wrb hS4 hF4
      have HFz : Hid (FrV WB LM buf b4 w w4) := HF1.out.trans hF4.wide
      have hzz : base ≤ w4.heap.size := Nat.le_trans hz1 hF4.only.size
      obtain ⟨t1, ht1⟩ : ∃ t1, Ft.mk q1 (fun i => if i = r then q1 else t.lab i) (t.out ++ (35 :: (Lib.itoa (q1 : Nat) ++ [61]))) = t1 := ⟨_, rfl⟩
      rw [ht1] at HTH
      have HWz : Hid (WtW w0 w4 WB QM LM base n T S0 Q t1 b4) := by rw [← ht1]; exact hW4
      have HSz : Hid (WrS w4 WB QM LM base b4 t1.out) := HWz.out.st
      clear hc hS4 hF4 hW4 ht1
      go_wp2_with fail
      have hlz : t1.out.length ≤ 1000000 + 100000000 := by have := head_len (Q := Q) t r; have := HLH.out; rw [← HTH.out, say_len] at this; omega
      have hca := putL WB QM LM base b4 t1.out [⟨#[123]⟩] w4 w4 w4.heap.size 1 rfl rfl (by omega) hWB hzz (by rw [show (catS [⟨#[123]⟩]).length = 1 from rfl]; omega) HSz (Below.refl _ _)
      go_wp2_with (go_at_call 46; refine hca.mono ?_)
      rintro e wa ⟨rfl, ba, hSa, hFa⟩
      have HCB : Hid (catS [⟨#[123]⟩] = [123]) := rfl
      rw [HCB.out] at hSa
      have hWa := HWz.out.say HE.out.wrb hSa hFa
      rw [HTH.out] at hWa
      have HWa : Hid (WtW w0 wa WB QM LM base n T S0 Q (t.head Q r) ba) := hWa
      have HFa : Hid (FrV WB LM buf ba w wa) := HFz.out.trans hFa.wide
      have hza : base ≤ wa.heap.size := Nat.le_trans hzz hFa.only.size
      clear hca hSa hFa hWa
      have hcb := wPairs_any w0 n T M at_ L K X WB QM LM base S0 Q HE f HIH.out (S ++ [r]) (bump Q0 r) (t.head Q r) r hrn wa ba HMi HLP.out hza HWa
      go_wp2_with (go_at_call 48; refine hcb.mono ?_)
      rintro e wb ⟨rfl, bb, hWb, hFb⟩
      obtain ⟨o, ho1, ho2, ho3, ho4⟩ := hWb.st
      have HO1 : Hid (WrS wb WB QM LM base bb o) := ho1
      have HO2 : Hid (Below w0.heap.size w0 wb) := ho2
      have HO3 : Hid (o.length ≤ (wrs Q L K X f (t.head Q r) r (L r)).out.length) := ho3
      have HO4 : Hid (20000 < o.length ∨ WtW w0 wb WB QM LM base n T S0 Q (wrs Q L K X f (t.head Q r) r (L r)) bb ∧ o = (wrs Q L K X f (t.head Q r) r (L r)).out) := ho4
      have HFb : Hid (FrV WB LM buf bb w wb) := HFa.out.trans hFb
      have hzb : base ≤ wb.heap.size := Nat.le_trans hza hFb.only.size
      have hlo : o.length ≤ 100000000 := Nat.le_trans ho3 HLP.out
      clear hcb ho1 ho2 ho3 ho4 hWb hFb
      have hcc := putL WB QM LM base bb o [⟨#[125]⟩] wb wb wb.heap.size 1 rfl rfl (by omega) hWB hzb (by rw [show (catS [⟨#[125]⟩]).length = 1 from rfl]; omega) HO1 (Below.refl _ _)
      go_wp2_with (go_at_call 46; refine hcc.mono ?_)
      rintro e wc ⟨rfl, bc, hSc, hFc⟩
      have HCC : Hid (catS [⟨#[125]⟩] = [125]) := rfl
      rw [HCC.out] at hSc
      have HEnd : Hid (WSt w0 wc WB QM LM base n T S0 Q ((wrs Q L K X f (t.head Q r) r (L r)).say [125]) bc) := WSt.say HE.out.wrb HO1.out HO2.out HO3.out HO4.out hSc hFc
      have HFE : Hid (FrV WB LM buf bc w wc) := HFb.out.trans hFc.wide
      clear hcc hSc hFc
      go_wp2
      go_end0
      exact ⟨rfl, bc, HEnd.out, HFE.out⟩
    · have hqi : ¬ ((1 : Int) < ((Q r : Nat) : Int)) := by omega
      have HTH : Hid (t.say [123] = t.head Q r) := by show _ = _; unfold Ft.head; rw [if_neg hq]
      have HWz : Hid (WtW w0 w WB QM LM base n T S0 Q t buf) := HW
      have HSz : Hid (WrS w WB QM LM base buf t.out) := HWS
      have HFz : Hid (FrV WB LM buf buf w w) := FrV.refl _ _ _ _
      have hzz : base ≤ w.heap.size := hbw
      obtain ⟨lv, hlv⟩ : ∃ lv : Nat, t.lab r = lv := ⟨_, rfl⟩
      obtain ⟨qv, hqv⟩ : ∃ qv : Nat, Q r = qv := ⟨_, rfl⟩
      rw [hlv] at hlk
      rw [hqv] at hld hqi hqb
      clear hlv hqv hq hM hi hll hF hlab hlabN h4 hr hmS hl0 hlen
      go_enter Tryd.func33, Tryd.ntmps33
      go_wp2_with fail
      have hlz : t.out.length ≤ 1000000 + 100000000 := by have := head_len (Q := Q) t r; have := HLH.out; rw [← HTH.out, say_len] at this; omega
      have hca := putL WB QM LM base buf t.out [⟨#[123]⟩] w w w.heap.size 1 rfl rfl (by omega) hWB hzz (by rw [show (catS [⟨#[123]⟩]).length = 1 from rfl]; omega) HSz (Below.refl _ _)
      go_wp2_with (go_at_call 46; refine hca.mono ?_)
      rintro e wa ⟨rfl, ba, hSa, hFa⟩
      have HCB : Hid (catS [⟨#[123]⟩] = [123]) := rfl
      rw [HCB.out] at hSa
      have hWa := HWz.out.say HE.out.wrb hSa hFa
      rw [HTH.out] at hWa
      have HWa : Hid (WtW w0 wa WB QM LM base n T S0 Q (t.head Q r) ba) := hWa
      have HFa : Hid (FrV WB LM buf ba w wa) := HFz.out.trans hFa.wide
      have hza : base ≤ wa.heap.size := Nat.le_trans hzz hFa.only.size
      clear hca hSa hFa hWa
      have hcb := wPairs_any w0 n T M at_ L K X WB QM LM base S0 Q HE f HIH.out (S ++ [r]) (bump Q0 r) (t.head Q r) r hrn wa ba HMi HLP.out hza HWa
      go_wp2_with (go_at_call 48; refine hcb.mono ?_)
      rintro e wb ⟨rfl, bb, hWb, hFb⟩
      obtain ⟨o, ho1, ho2, ho3, ho4⟩ := hWb.st
      have HO1 : Hid (WrS wb WB QM LM base bb o) := ho1
      have HO2 : Hid (Below w0.heap.size w0 wb) := ho2
      have HO3 : Hid (o.length ≤ (wrs Q L K X f (t.head Q r) r (L r)).out.length) := ho3
      have HO4 : Hid (20000 < o.length ∨ WtW w0 wb WB QM LM base n T S0 Q (wrs Q L K X f (t.head Q r) r (L r)) bb ∧ o = (wrs Q L K X f (t.head Q r) r (L r)).out) := ho4
      have HFb : Hid (FrV WB LM buf bb w wb) := HFa.out.trans hFb
      have hzb : base ≤ wb.heap.size := Nat.le_trans hza hFb.only.size
      have hlo : o.length ≤ 100000000 := Nat.le_trans ho3 HLP.out
      clear hcb ho1 ho2 ho3 ho4 hWb hFb
      have hcc := putL WB QM LM base bb o [⟨#[125]⟩] wb wb wb.heap.size 1 rfl rfl (by omega) hWB hzb (by rw [show (catS [⟨#[125]⟩]).length = 1 from rfl]; omega) HO1 (Below.refl _ _)
      go_wp2_with (go_at_call 46; refine hcc.mono ?_)
      rintro e wc ⟨rfl, bc, hSc, hFc⟩
      have HCC : Hid (catS [⟨#[125]⟩] = [125]) := rfl
      rw [HCC.out] at hSc
      have HEnd : Hid (WSt w0 wc WB QM LM base n T S0 Q ((wrs Q L K X f (t.head Q r) r (L r)).say [125]) bc) := WSt.say HE.out.wrb HO1.out HO2.out HO3.out HO4.out hSc hFc
      have HFE : Hid (FrV WB LM buf bc w wc) := HFb.out.trans hFc.wide
      clear hcc hSc hFc
      go_wp2
      go_end0
      exact ⟨rfl, bc, HEnd.out, HFE.out⟩

end Go.Proofs.YtgflalfiopnmnabDoor

namespace Go.Proofs.YtgflalfiopnmnabDoor
open Go.RowKit Vl

/-- 'visit' with the writer. -/
theorem wVisit_any (w0 : World) (n : Nat) (T M : Nat → Nat) (at_ : Nat → Int) (L : Nat → Nat) (K X : Nat → Nat → V) (WB QM LM base : Nat) (S0 : List Nat) (Q : Nat → Nat) (HE : Hid (Env w0 n T M at_ L K X WB QM LM base S0 Q)) : ∀ f, WtV w0 n T L K X WB QM LM base S0 Q f := by
  intro f
  induction f with
  | zero => intro S Q0 t v w buf HA _ _ _ _; have := HA.out.fuel; omega
  | succ f ih =>
    intro S Q0 t v w buf HA hsv hlen hbw HW
    have hWB : WB < base := HE.out.wrb.wbb
    by_cases h4 : v.k = 4
    · obtain ⟨a0, a1⟩ := isV_tab HA.out.val h4
      rw [ifv_tab h4]
      refine wVisit_tab WB (T v.a.toNat) w (fun w' => ∃ buf', WSt w0 w' WB QM LM base n T S0 Q (frz Q L K X (f + 1) t v) buf' ∧ FrV WB LM buf buf' w w') ?_
      have hb := below_alloc w (.cells #[fnWT WB, fnWP WB] 54)
      refine (wTable_any w0 n T M at_ L K X WB QM LM base S0 Q HE f ih S Q0 t v h4 v.a.toNat rfl (by omega) _ buf HA hlen (Nat.le_trans hbw hb.size) (HW.out.below hb)).mono ?_
      rintro e w' ⟨rfl, b', h1, h2⟩
      exact ⟨rfl, b', h1, (FrV.first hb).trans h2⟩
    · have hE : frz Q L K X (f + 1) t v = t.say (plT v) := wr_no h4
      rw [hE] at hlen ⊢
      rw [say_len] at hlen
      refine wVisit_plain WB n T at_ v HA.out.val h4 w (fun w' => ∃ buf', WSt w0 w' WB QM LM base n T S0 Q (t.say (plT v)) buf' ∧ FrV WB LM buf buf' w w') (fun w' hb j hj => ?_) (fun w1 hb hl => ?_)
      · have hb0 := HW.out.bel.trans (hb.mono HW.out.bel.size)
        exact (hb0.cell (p := ⟨T j, 0, none⟩) (HE.out.tbs.lt hj)).trans (HE.out.tbs.at0 j hj)
      · have hW1 := HW.out.below hb
        refine (wplain_any WB QM LM base buf t.out v w1 hWB (Nat.le_trans hbw hb.size) (by omega) (kinds HA.out.val h4) hsv (Tab.env HE.out hW1.bel) hW1.st).mono ?_
        rintro e w' ⟨rfl, b', h1, h2⟩
        refine ⟨rfl, ⟨b', Or.inl (hW1.say HE.out.wrb h1 h2), (FrV.first hb).trans h2.wide⟩, ?_⟩
        refine h2.only.block _ hl (fun x => ?_)
        obtain ⟨_, _, _, hk⟩ := owns_form HW.out.st.own
        rcases x with x | x | x
        · omega
        · omega
        · have := (hk _ x).2
          omega

theorem cellsU8 : Tryd.prog.cellsOf 5 = 1 := by kernel_rfl

set_option maxHeartbeats 1000000 in
set_option maxRecDepth 100000 in
/-- '(*strings.Builder).String' in the writer. -/
theorem bString_any (WB QM LM base : Nat) (buf : Value) (bs : List UInt8) (h0 : bs ≠ []) (w w0 : World) (hb0 : Below w0.heap.size w0 w) (hbase : w0.heap.size ≤ base) (H : Hid (WrS w WB QM LM base buf bs)) :
    Calls Tryd.prog 20 #[pW WB] w fun e w' => e = .returned (.string ⟨bs.toArray⟩) ∧ Below w0.heap.size w0 w' := by
  obtain ⟨p, hp, hblk⟩ := H.out.blk
  have hl0 : bs.length ≠ 0 := by simpa using h0
  have hown := H.out.own
  obtain ⟨g, cap, cur, rfl, hbg, hg, hnc, hcm, hcs, htake⟩ : ∃ g cap cur, buf = .slice (some ⟨g, 0, none⟩) bs.length cap ∧ base ≤ g ∧ w.heap[g]? = some (.cells cur 5 (0, 0)) ∧ bs.length ≤ cap ∧ cap ≤ maxLen ∧ cur.size = cap * 1 ∧ cur.toList.take (bs.length * 1) = Lib.byteCells bs := by
    rcases hown.2 with ⟨_, hz⟩ | ⟨g, cap, cur, hv, r⟩
    · exact absurd hz hl0
    · exact ⟨g, cap, cur, hv, r⟩
  obtain ⟨_, _, _, c3, _, _⟩ := four_at (w := w.drew) hblk
  have hSD : (Builtin.unsafeSliceData_ #[59] 94 #[.slice (some ⟨g, 0, none⟩) bs.length cap]).run Tryd.prog w.drew = .ok (.pointer (some ⟨g, 0, none⟩)) w.drew :=
    Lib.run_unsafeSliceData_row _ _ _ _ _ _ (by omega)
  have hUS : (Builtin.unsafeString_ #[94, 3] 9 #[.pointer (some ⟨g, 0, none⟩), .int .i64 bs.length]).run Tryd.prog w.drew = .ok (.string ⟨bs.toArray⟩) (w.drew.freeze ⟨g, 0, none⟩ bs.length) := by
    refine Lib.run_unsafeString_row w.drew 94 3 9 5 Tryd.underlying94 cellsU8 g cur.size (by have hg' : w.drew.heap[g]? = some (.cells cur 5 (0, 0)) := hg; simp [World.shape?, hg']) bs h0 (by omega) (by unfold maxLen at hcm; omega) ?_
    intro j x hx
    exact hown.cells (g := g) rfl j (.int .u8 x.toNat) (by simp [Lib.byteCells, hx])
  have HB : Hid (Below w0.heap.size w0 (w.drew.freeze ⟨g, 0, none⟩ bs.length)) := Lib.below_freeze hb0.drew (p := ⟨g, 0, none⟩) (Nat.le_trans hbase hbg) _
  clear hcs htake hcm hnc hg hown hblk hp hb0
  go_enter Tryd.func20, Tryd.ntmps20
  go_wp2
  go_region
  all_goals (go_wp2; go_ret; exact ⟨rfl, HB.out⟩)

end Go.Proofs.YtgflalfiopnmnabDoor

namespace Go.Proofs.YtgflalfiopnmnabDoor
open Go.RowKit Vl

theorem short_of {n : Nat} {v : V} (h : isV n v = true) : v.s.size ≤ 500 := by
  obtain ⟨k, m, s, a⟩ := v
  have hz : s.toList = [] → s.size ≤ 500 := fun e => by rw [bytes_empty e]; decide
  by_cases k0 : k = 0
  · subst k0; simp [isV] at h; exact hz h.2.1
  by_cases k1 : k = 1
  · subst k1; simp [isV] at h; exact hz h.2.1
  by_cases k2 : k = 2
  · subst k2; simp [isV] at h; exact hz h.1
  by_cases k3 : k = 3
  · subst k3; simp [isV] at h; exact h.2.2
  by_cases k4 : k = 4
  · subst k4; simp [isV] at h; exact hz h.2.1
  · simp [isV, k0, k1, k2, k3, k4] at h

/-- The numbers are int64's. -/
def Rg (v : V) : Prop := -9223372036854775808 ≤ v.n ∧ v.n ≤ 9223372036854775807
def Rgs (n : Nat) (u : V) (L : Nat → Nat) (K X : Nat → Nat → V) : Prop := Rg u ∧ ∀ r, r < n → ∀ c, c < L r → Rg (K r c) ∧ Rg (X r c)
theorem plain_of_ok {n : Nat} {u : V} {L : Nat → Nat} {K X : Nat → Nat → V} (h : OkG n u L K X) (hr : Rgs n u L K X) : Plain n L K X := by
  refine ⟨fun r hrn c hc => ?_, fun r hrn c hc => ⟨short_of ((h.all r hrn).all c hc).val, (hr.2 r hrn c hc).2⟩⟩
  have hk := ((h.all r hrn).all c hc).key
  unfold isK at hk
  simp only [Bool.and_eq_true, Bool.or_eq_true, beq_iff_eq] at hk
  refine ⟨⟨short_of hk.2, (hr.2 r hrn c hc).1⟩, ?_⟩
  rcases hk.1 with (h1 | h1) | h1
  · exact Or.inr (Or.inl h1)
  · exact Or.inr (Or.inr (Or.inl h1))
  · exact Or.inr (Or.inr (Or.inr h1))

theorem plT_pos (v : V) : 0 < (plT v).length := by
  unfold plT
  split
  · split <;> decide
  · split
    · unfold Lib.itoa
      split
      · simp
      · rw [Lib.decDigits]
        split
        · simp
        · simp
    · split
      · simp [quT]
      · decide
theorem frz_pos {Q : Nat → Nat} {L : Nat → Nat} {K X : Nat → Nat → V} (f : Nat) (t : Ft) (v : V) : 0 < (frz Q L K X (f + 1) t v).out.length := by
  by_cases h4 : v.k = 4
  · by_cases hl : t.lab v.a.toNat = 0
    · rw [wr_new h4 hl, say_len]; simp
    · rw [wr_old h4 (by omega), say_len, List.length_cons]; omega
  · rw [wr_no h4, say_len]; have := plT_pos v; omega

/-- The frozen text. -/
def frzS (n : Nat) (u : V) (L : Nat → Nat) (K X : Nat → Nat → V) : ByteArray := if 20000 < (wrAll n u L K X).out.length then ⟨#[]⟩ else ⟨(wrAll n u L K X).out.toArray⟩
def FrzIs (e : Ending) (n : Nat) (u : V) (L : Nat → Nat) (K X : Nat → Nat → V) : Prop := (OkG n u L K X ∧ e = .returned (.string (frzS n u L K X))) ∨ (¬ OkG n u L K X ∧ e = .returned (.string ⟨#[]⟩))

theorem wrAll_len {n : Nat} {u : V} {L : Nat → Nat} {K X : Nat → Nat → V} (h : OkG n u L K X) (hr : Rgs n u L K X) : (wrAll n u L K X).out.length ≤ 100000000 := by
  have hp := plain_of_ok h hr
  have h1 := wr_len (K := K) h.len (good_of h) (fun r hrn => (h.all r hrn).len) (fun r hrn c hc => (hp.key r hrn c hc).1) hp.val (n + 1) (wat0 (L := L) (X := X) h.root) ⟨short_of h.root, hr.1⟩
  have h2 := (order_all h).1.len
  unfold order at h2
  have h3 := h.len
  have h4 : (frz (cntAll n u L X) L K X (n + 1) ft0 u).out.length ≤ 0 + 1502 + 400000 * ((met L X (n + 1) [] u).length - 0) := h1
  show (frz (cntAll n u L X) L K X (n + 1) ft0 u).out.length ≤ 100000000
  have h5 : 400000 * ((met L X (n + 1) [] u).length - 0) ≤ 400000 * 200 := Nat.mul_le_mul_left _ (by omega)
  exact Nat.le_trans h4 (Nat.le_trans (Nat.add_le_add_left h5 _) (by decide))

set_option maxHeartbeats 4000000 in
set_option maxRecDepth 100000 in
/-- 'impl.Freeze'. -/
theorem implFreeze_any (u : V) (ta : Option Addr) (n cp TB TO : Nat) (A : Nat → Option Addr) (L C RB RO : Nat → Nat) (K X : Nat → Nat → V) (w : World) (hn : n ≤ 1048576) (HS : Hid (Small 1048576 n L K X)) (HT : Hid (TabsAt w ta n TB TO A L C RB RO K X)) (HTab : Hid (Tab w)) (HR : Hid (Rgs n u L K X)) :
    Calls Tryd.prog 7 #[.agg #[.int .i64 u.k, .int .i64 u.n, .string u.s, .int .i64 u.a, .slice ta n cp]] w fun e w' => FrzIs e n u L K X ∧ Below w.heap.size w w' := by
  obtain ⟨w0, hw0⟩ : ∃ w0, w0 = w.alloc (.cells #[.int .i64 u.k, .int .i64 u.n, .string u.s, .int .i64 u.a, .slice ta n cp] 32) := ⟨_, rfl⟩
  have H0 : Hid (Below w.heap.size w w0) := by rw [hw0]; exact below_alloc _ _
  have hlk := link_any u ta n cp TB TO A L C RB RO K X w0 hn HS (HT.out.below H0.out)
  go_enter Tryd.func7, Tryd.ntmps7
  go_wp2_with fail
  rw [← hw0]
  refine hlk.mono ?_
  clear hlk hw0
  rintro e w1 ⟨hcase, hb1⟩
  have H1 : Hid (Below w.heap.size w w1) := H0.out.trans (hb1.mono H0.out.size)
  clear hb1 H0
  rcases hcase with ⟨hG, rfl, base0, hH⟩ | ⟨hN, rfl⟩
  · have HG : Hid (OkG n u L K X) := hG
    have HH : Hid (Half w1 w0.heap.size n n base0 L K X) := hH
    obtain ⟨b, hb⟩ : ∃ b, w0.heap.size = b := ⟨_, rfl⟩
    rw [hb] at HH ⊢
    clear hG hH hb
    obtain ⟨xt, xy, hxv⟩ := ifv_form (tT b) u
    have HXV : Hid (ifv (tT b) u = .iface xt xy) := hxv
    rw [hxv]
    clear hxv
    obtain ⟨w2, hw2⟩ : ∃ w2, w2 = w1.alloc (.cells #[.iface xt xy, .slice (some ⟨b + 2, 0, none⟩) n n] 45) := ⟨_, rfl⟩
    have hb2 : Below w1.heap.size w1 w2 := by rw [hw2]; exact below_alloc _ _
    have H2 : Hid (Below w.heap.size w w2) := H1.out.trans (hb2.mono H1.out.size)
    have HT2 : Hid (Tbs w2 n (tT b) (tM b) (fun j => (j : Nat)) L K X) := (HH.out.tbs HG.out).below hb2
    have HL2 : Hid (w2.heap[w1.heap.size]? = some (.cells #[.iface xt xy, .slice (some ⟨b + 2, 0, none⟩) n n] 45 (0, 0))) := by rw [hw2]; exact heap_alloc_new w1 _
    have hs2 : w2.heap.size = w1.heap.size + 1 := by rw [hw2]; simp
    obtain ⟨w3, hw3⟩ : ∃ w3, w3 = (w2.alloc (.map #[] 0)).alloc (.cells #[.map (some w2.heap.size)] 50) := ⟨_, rfl⟩
    have A3 := alloc2 w2 (.map #[] 0) (.cells #[.map (some w2.heap.size)] 50)
    rw [← hw3] at A3
    obtain ⟨a1, a2, a3, a4⟩ := A3
    have HM3 : Hid (w3.heap[w2.heap.size]? = some (.map #[] 0)) := a1
    have HC3 : Hid (w3.heap[w2.heap.size + 1]? = some (.cells #[.map (some w2.heap.size)] 50 (0, 0))) := a2
    have HB3 : Hid (Below w2.heap.size w2 w3) := a4
    have hs3 : w3.heap.size = w2.heap.size + 2 := a3
    have HL3 : Hid (w3.heap[w1.heap.size]? = some (.cells #[.iface xt xy, .slice (some ⟨b + 2, 0, none⟩) n n] 45 (0, 0))) := blkB HL2.out a4
    clear a1 a2 a3 a4
    obtain ⟨QM, hQM⟩ : ∃ QM, w2.heap.size = QM := ⟨_, rfl⟩
    obtain ⟨LB, hLB⟩ : ∃ LB, w1.heap.size = LB := ⟨_, rfl⟩
    have hQ0 : w2.heap.size ≤ QM := by omega
    have HCt : Hid (CtW w2 w3 QM (tT b) [] (fun _ => 0)) := by
      rw [← hQM]
      exact ⟨⟨#[], 0, HM3.out, rfl⟩, HB3.out⟩
    have hcat := cat0 HG.out.len (good_of HG.out) (fun r hr => (HG.out.all r hr).len) HG.out.root
    have HCat : Hid _ := hcat
    rw [hQM] at hw3 HC3 hs3
    rw [hLB] at HL3
    rw [hw2] at hw3
    clear hcat HH hb2 HM3
    have HQS : Hid (LB + 1 = QM) := show _ = _ by omega
    have hmm := @run_makeMap Tryd.prog
    go_wp2_with fail
    rw [HQS.out, ← hw3]
    clear hw3 hw2 hmm
    have HS3 : Hid (w3.heap.size = QM + 2) := hs3
    have HZ2 : Hid (w2.heap.size = QM) := hQM
    clear hs3 hQM hLB hs2
    refine wp_region_held_drew (S := fun w' => w'.heap[QM + 1]? = some (.cells #[.map (some QM)] 50 (0, 0)) ∧ w'.heap[LB]? = some (.cells #[.iface xt xy, .slice (some ⟨b + 2, 0, none⟩) n n] 45 (0, 0))) (by kernel_rfl) ⟨HC3.out, HL3.out⟩ (fun hHeld => ?_)
    refine wpAnyH_take (i := 0) (v := .agg #[.map (some QM)]) rfl (by kernel_rfl) (by kernel_rfl) (by kernel_rfl) (fun _ _ _ h => h) (Or.inl ⟨by rfl, fun w hSw => ?_⟩) hHeld ?_
    · have s1 := (one_at hSw.1).1
      first | rfl | go_simp
    simp only [Act.put, List.setIfInBounds_toArray, List.set_cons_zero, List.set_cons_succ, List.getElem_toArray, List.getElem_cons_zero]
    refine wpAnyH_take (i := 2) (v := .pointer (some ⟨LB, 0, none⟩)) rfl (by kernel_rfl) (by kernel_rfl) (by kernel_rfl) (fun _ _ _ h => h) (Or.inl ⟨by rfl, fun w hSw => ?_⟩) hHeld ?_
    · first | rfl | go_simp
    simp only [Act.put, List.setIfInBounds_toArray, List.set_cons_zero, List.set_cons_succ, List.getElem_toArray, List.getElem_cons_zero, List.getElem_cons_succ]
    refine wpAnyH_take (i := 3) (v := .iface xt xy) rfl (by kernel_rfl) (by kernel_rfl) (by kernel_rfl) (fun _ _ _ h => h) (Or.inl ⟨by rfl, fun w hSw => ?_⟩) hHeld ?_
    · have s1 := (two_at hSw.2).1
      first | rfl | go_simp
    simp only [Act.put, List.setIfInBounds_toArray, List.set_cons_zero, List.set_cons_succ, List.getElem_toArray, List.getElem_cons_zero, List.getElem_cons_succ]
    refine wpAnyH_ready (rs := [1]) (by kernel_rfl) (by simp) ?_
    refine AllReadyH.cons rfl (fun K' hK' => ?_) AllReadyH.nil
    have hcv := cVisitor_any QM w3.drew
    go_simp
    refine hcv.mono ?_
    clear hcv
    rintro e w4 ⟨rfl, hb4⟩
    have HB4 : Hid (Below w3.drew.heap.size w3.drew w4) := hb4
    have HCt4 : Hid (CtW w2 w4 QM (tT b) [] (fun _ => 0)) := HCt.out.below ((Below.refl _ _).drew.trans hb4)
    have HC4 : Hid (w4.heap[QM + 1]? = some (.cells #[.map (some QM)] 50 (0, 0))) := blkB (w := w3.drew) HC3.out hb4
    have HL4 : Hid (w4.heap[LB]? = some (.cells #[.iface xt xy, .slice (some ⟨b + 2, 0, none⟩) n n] 45 (0, 0))) := blkB (w := w3.drew) HL3.out hb4
    refine hK'.out _ _ ⟨HC4.out, HL4.out⟩ (fun hHeld => ?_)
    clear hK' hb4
    refine wpAnyH_ready (rs := [4]) (by kernel_rfl) (by simp) ?_
    refine AllReadyH.cons rfl (fun K' hK' => ?_) AllReadyH.nil
    have hcall := cVisit_any n (tT b) (tM b) _ L K X w2 QM (show ∀ r, _ from fun r hr => (HG.out.all r hr).len) (good_of HG.out) HT2 hQ0 (n + 1) [] (fun _ => 0) u w4 HCat HCt4
    rw [HXV.out] at hcall
    go_simp
    refine hcall.mono ?_
    clear hcall
    rintro e w5 ⟨rfl, hW5, hO5⟩
    have HCt5 : Hid (CtW w2 w5 QM (tT b) (order n u L X) (cntAll n u L X)) := hW5
    have hqs := HQS.out
    have HC5 : Hid (w5.heap[QM + 1]? = some (.cells #[.map (some QM)] 50 (0, 0))) := (hO5.block _ (blk_lt HC4.out) (by omega)).trans HC4.out
    have HL5 : Hid (w5.heap[LB]? = some (.cells #[.iface xt xy, .slice (some ⟨b + 2, 0, none⟩) n n] 45 (0, 0))) := (hO5.block _ (blk_lt HL4.out) (by omega)).trans HL4.out
    refine hK'.out _ _ ⟨HC5.out, HL5.out⟩ (fun hHeld => ?_)
    clear hK' hHeld
    refine wpAnyH_done (by kernel_rfl) ?_ _
    have HZ5 : Hid (QM + 2 ≤ w5.heap.size) := show _ ≤ _ by have := HB4.out.size; have h1 := hO5.size; have h2 := HS3.out; have h3 : w3.drew.heap.size = w3.heap.size := rfl; omega
    have HB5 : Hid (Below w.heap.size w w5) := H2.out.trans (HCt5.out.bel.mono H2.out.size)
    have HT5 : Hid (Tbs w5 n (tT b) (tM b) (fun j => (j : Nat)) L K X) := by
      have h1 : Only (fun k => k = QM) w2 w5 := ((Only.below HB3.out).trans ((Only.below (Below.refl _ _).drew).trans (Only.below HB4.out))).trans hO5
      exact HT2.out.only h1 (fun k hk e => by have := HZ2.out; omega)
    clear hW5 hO5
    obtain ⟨WB, hWB⟩ : ∃ WB, w5.heap.size + 1 = WB := ⟨_, rfl⟩
    obtain ⟨LM, hLM⟩ : ∃ LM, w5.heap.size = LM := ⟨_, rfl⟩
    obtain ⟨w6, hw6⟩ : ∃ w6, w6 = (w5.alloc (.map #[] 0)).alloc (.cells #[.map (some QM), .map (some LM), .pointer none, .slice none 0 0] 63) := ⟨_, rfl⟩
    have A6 := alloc2 w5 (.map #[] 0) (.cells #[.map (some QM), .map (some LM), .pointer none, .slice none 0 0] 63)
    rw [← hw6] at A6
    obtain ⟨a1, a2, a3, a4⟩ := A6
    rw [hWB] at a2
    rw [hLM] at a1
    have HB6 : Hid (Below w5.heap.size w5 w6) := a4
    have HWrB : Hid (WrB w5 WB QM LM (WB + 1)) := by have h1 := HZ5.out; exact ⟨by omega, by omega, by omega, by omega, by omega, by omega, by omega, by omega⟩
    have HEnv : Hid (Env w5 n (tT b) (tM b) (fun j => (j : Nat)) L K X WB QM LM (WB + 1) (order n u L X) (cntAll n u L X)) := ⟨HG.out.len, fun r hr => (HG.out.all r hr).len, good_of HG.out, HT5.out, HWrB.out, plain_of_ok HG.out HR.out, fun w' hb' => HTab.out w' (HB5.out.trans (hb'.mono HB5.out.size)), (order_all HG.out).1, led_cnt (n + 1) u led_nil, HCat.out.le⟩
    have HWt6 : Hid (WtW w5 w6 WB QM LM (WB + 1) n (tT b) (order n u L X) (cntAll n u L X) ft0 (.slice none 0 0)) :=
      ⟨⟨⟨.pointer none, Or.inl rfl, a2⟩, World.ownsRow_nil _ _ _ _⟩, HCt5.out.map.same (a4.block _ HCt5.out.map.lt), ⟨[], Fit.nil n, fun i => by simp [ft0], rfl, ⟨#[], 0, a1, rfl⟩⟩, a4⟩
    have HL6 : Hid (w6.heap[LB]? = some (.cells #[.iface xt xy, .slice (some ⟨b + 2, 0, none⟩) n n] 45 (0, 0))) := blkB HL5.out a4
    have HZ6 : Hid (w6.heap.size = WB + 1) := show _ = _ by omega
    have x5 := (one_at HC5.out).1
    have x5' : ∀ o, (w5.alloc o).cell? ⟨QM + 1, 0, none⟩ = some (.map (some QM)) := fun o => ((below_alloc w5 o).cell (p := ⟨QM + 1, 0, none⟩) (blk_lt HC5.out)).trans x5
    have hmm := @run_makeMap Tryd.prog
    have HWL : Hid (LM + 1 = WB) := show _ = _ by omega
    clear a1 a2 a3 a4 hqs
    go_wp2_with fail
    rw [HWL.out, ← hw6]
    clear hw6 hmm x5 x5' hWB hLM
    refine wp_region_held_drew (S := fun w' => w'.heap[LB]? = some (.cells #[.iface xt xy, .slice (some ⟨b + 2, 0, none⟩) n n] 45 (0, 0))) (by kernel_rfl) HL6.out (fun hHeld => ?_)
    refine wpAnyH_take (i := 0) (v := .pointer (some ⟨WB, 0, none⟩)) rfl (by kernel_rfl) (by kernel_rfl) (by kernel_rfl) (fun _ _ _ h => h) (Or.inl ⟨by rfl, fun w hSw => ?_⟩) hHeld ?_
    · first | rfl | go_simp
    simp only [Act.put, List.setIfInBounds_toArray, List.set_cons_zero, List.set_cons_succ, List.getElem_toArray, List.getElem_cons_zero]
    refine wpAnyH_take (i := 2) (v := .pointer (some ⟨LB, 0, none⟩)) rfl (by kernel_rfl) (by kernel_rfl) (by kernel_rfl) (fun _ _ _ h => h) (Or.inl ⟨by rfl, fun w hSw => ?_⟩) hHeld ?_
    · first | rfl | go_simp
    simp only [Act.put, List.setIfInBounds_toArray, List.set_cons_zero, List.set_cons_succ, List.getElem_toArray, List.getElem_cons_zero, List.getElem_cons_succ]
    refine wpAnyH_take (i := 3) (v := .iface xt xy) rfl (by kernel_rfl) (by kernel_rfl) (by kernel_rfl) (fun _ _ _ h => h) (Or.inl ⟨by rfl, fun w hSw => ?_⟩) hHeld ?_
    · have s1 := (two_at hSw).1
      first | rfl | go_simp
    simp only [Act.put, List.setIfInBounds_toArray, List.set_cons_zero, List.set_cons_succ, List.getElem_toArray, List.getElem_cons_zero, List.getElem_cons_succ]
    refine wpAnyH_ready (rs := [1]) (by kernel_rfl) (by simp) ?_
    refine AllReadyH.cons rfl (fun K' hK' => ?_) AllReadyH.nil
    have hcv := wVisitor_any WB w6.drew
    go_simp
    refine hcv.mono ?_
    clear hcv
    rintro e w7 ⟨rfl, hb7⟩
    have HB7 : Hid (Below w6.drew.heap.size w6.drew w7) := hb7
    have HWt7 : Hid (WtW w5 w7 WB QM LM (WB + 1) n (tT b) (order n u L X) (cntAll n u L X) ft0 (.slice none 0 0)) := HWt6.out.below ((Below.refl _ _).drew.trans hb7)
    have HL7 : Hid (w7.heap[LB]? = some (.cells #[.iface xt xy, .slice (some ⟨b + 2, 0, none⟩) n n] 45 (0, 0))) := blkB (w := w6.drew) HL6.out hb7
    refine hK'.out _ _ HL7.out (fun hHeld => ?_)
    clear hK' hb7
    refine wpAnyH_ready (rs := [4]) (by kernel_rfl) (by simp) ?_
    refine AllReadyH.cons rfl (fun K' hK' => ?_) AllReadyH.nil
    have hz7 : WB + 1 ≤ w7.heap.size := by have := HB7.out.size; have h2 := HZ6.out; have h3 : w6.drew.heap.size = w6.heap.size := rfl; omega
    have hcall := wVisit_any w5 n (tT b) (tM b) (fun j => (j : Nat)) L K X WB QM LM (WB + 1) (order n u L X) (cntAll n u L X) HEnv (n + 1) [] (fun _ => 0) ft0 u w7 (.slice none 0 0) (wat0 HG.out.root) ⟨short_of HG.out.root, HR.out.1⟩ (wrAll_len HG.out HR.out) hz7 HWt7
    rw [HXV.out] at hcall
    go_simp
    refine hcall.mono ?_
    clear hcall
    rintro e w8 ⟨rfl, b8, hW8, hF8⟩
    have HL8 : Hid (w8.heap[LB]? = some (.cells #[.iface xt xy, .slice (some ⟨b + 2, 0, none⟩) n n] 45 (0, 0))) := hF8.blk HL7.out (by have := HQS.out; have := HZ5.out; have := HWL.out; have := HCt5.out.map.lt; have := HWrB.out.wb; omega) (by have := HQS.out; have := HZ5.out; have := HWrB.out.lm; omega) (by simp [Value.ownBlock])
    refine hK'.out _ _ HL8.out (fun hHeld => ?_)
    clear hK' hHeld
    refine wpAnyH_done (by kernel_rfl) ?_ _
    obtain ⟨o, ho1, ho2, ho3, ho4⟩ := hW8.st
    have HO1 : Hid (WrS w8 WB QM LM (WB + 1) b8 o) := ho1
    have HO2 : Hid (Below w5.heap.size w5 w8) := ho2
    have HB8 : Hid (Below w.heap.size w w8) := HB5.out.trans (ho2.mono HB5.out.size)
    have htl := tooLong_any WB QM LM (WB + 1) b8 o w8 HO1
    have ho3' : o.length ≤ (wrAll n u L K X).out.length := ho3
    clear hW8 hF8 ho1 ho2 ho3
    by_cases hlong : 20000 < o.length
    · rw [decide_eq_true hlong] at htl
      have HFin : Hid (FrzIs (.returned (.string ⟨#[]⟩)) n u L K X) := by
        refine Or.inl ⟨HG.out, ?_⟩
        unfold frzS
        rw [if_pos (by omega)]
      clear hlong ho4 ho3'
      go_wp2_with (go_at_call 19; refine htl.mono ?_; rintro e w' ⟨rfl, rfl⟩)
      go_ret
      exact ⟨HFin.out, HB8.out⟩
    · rw [decide_eq_false hlong] at htl
      have hoe : o = (wrAll n u L K X).out := (ho4.resolve_left hlong).2
      have hne : o ≠ [] := fun e => by
        have := frz_pos (Q := cntAll n u L X) (L := L) (K := K) (X := X) n ft0 u
        have h2 : 0 < (wrAll n u L K X).out.length := this
        rw [← hoe, e] at h2
        simp at h2
      have HFin : Hid (FrzIs (.returned (.string ⟨o.toArray⟩)) n u L K X) := by
        refine Or.inl ⟨HG.out, ?_⟩
        unfold frzS
        rw [if_neg (by rw [← hoe]; exact hlong), ← hoe]
      have hst := bString_any WB QM LM (WB + 1) b8 o hne w8 w HB8.out (by have := HB5.out.size; have := HWrB.out.wb; omega) HO1
      clear hlong ho4 ho3' hoe hne
      go_wp2_with (first | (go_at_call 19; refine htl.mono ?_; rintro e w' ⟨rfl, rfl⟩) | (go_at_call 20; refine hst.mono ?_; rintro e w' ⟨rfl, hb'⟩))
      have HBF : Hid _ := hb'
      clear hst htl hb'
      go_wp2
      go_ret
      exact ⟨HFin.out, HBF.out⟩
  · have HN : Hid (¬ OkG n u L K X) := hN
    clear hN
    have HB2 : Hid (Below w.heap.size w (w1.alloc (.cells #[.nilIface, .slice none 0 0] 45))) := H1.out.trans ((below_alloc _ _).mono H1.out.size)
    go_wp2
    go_ret
    exact ⟨Or.inr ⟨HN.out, rfl⟩, HB2.out⟩

end Go.Proofs.YtgflalfiopnmnabDoor

namespace Go.Proofs.YtgflalfiopnmnabDoor
open Go.RowKit Vl

theorem Tryd.infoI : (Tryd.prog.info? 3).map (fun i => (i.zero, i.size, i.bytes)) = some (some (.int .i64 0), 1, 8) := by kernel_rfl
theorem fz_alloc4 (w : World) (a b c d : Obj) : ((((w.alloc a).alloc b).alloc c).alloc d).heap[w.heap.size]? = some a ∧ ((((w.alloc a).alloc b).alloc c).alloc d).heap[w.heap.size + 1]? = some b ∧ ((((w.alloc a).alloc b).alloc c).alloc d).heap[w.heap.size + 2]? = some c ∧ ((((w.alloc a).alloc b).alloc c).alloc d).heap[w.heap.size + 3]? = some d ∧ ((((w.alloc a).alloc b).alloc c).alloc d).heap.size = w.heap.size + 4 ∧ Below w.heap.size w ((((w.alloc a).alloc b).alloc c).alloc d) := by
  have A := alloc2 w a b
  have B := alloc2 ((w.alloc a).alloc b) c d
  rw [A.2.2.1] at B
  refine ⟨blkB A.1 (by rw [A.2.2.1]; exact B.2.2.2), blkB A.2.1 (by rw [A.2.2.1]; exact B.2.2.2), B.1, B.2.1, B.2.2.1, A.2.2.2.trans (B.2.2.2.mono (by omega))⟩
theorem made_zero {w : World} {B n : Nat} (h : w.heap[B]? = some (.cells (madeCells #[.int .i64 0] n) 3 (0, 0))) : w.rowIs B 3 n (fun _ => .int .i64 ((0 : Nat) : Int)) := by
  have h1 := row_made w #[.int .i64 0] n 3
  obtain ⟨c, hc, hs, hv⟩ := h1
  rw [heap_alloc_new] at hc
  simp only [Option.some.injEq, Obj.cells.injEq, and_true] at hc
  refine ⟨madeCells #[.int .i64 0] n, h, ?_, fun i hi => ?_⟩
  · rw [hc]; simpa using hs
  · rw [hc]
    have := hv i (by simpa using hi)
    simpa [Nat.mod_one] using this

/-- The model's freezer at its beginning. -/
theorem sfw0 {w : World} {LB XB FB : Nat} {u : V} {ta : Option Addr} {n cp : Nat} {w1 : World} (hb : Below w.heap.size w w1) (h1 : w1.heap[LB]? = some (.cells (madeCells #[.int .i64 0] n) 3 (0, 0))) (h2 : w1.heap[XB]? = some (.cells (madeCells #[.int .i64 0] n) 3 (0, 0)))
    (h3 : w1.heap[FB]? = some (.cells #[.int .i64 u.k, .int .i64 u.n, .string u.s, .int .i64 u.a, .slice ta n cp, .slice (some ⟨LB, 0, none⟩) n n, .slice (some ⟨XB, 0, none⟩) n n, .int .i64 0, .slice none 0 0] 82 (0, 0))) : SfW w w1 FB LB XB (FB + 1) u ta n cp (fun _ => 0) ft0 (.slice none 0 0) :=
  ⟨h3, made_zero h1, made_zero h2, World.ownsRow_nil _ _ _ _, hb⟩

set_option maxHeartbeats 2000000 in
set_option maxRecDepth 100000 in
/-- 'l4freeze'. -/
theorem l4freeze_any (u : V) (ta : Option Addr) (n cp TB TO : Nat) (A : Nat → Option Addr) (L C RB RO : Nat → Nat) (K X : Nat → Nat → V) (w : World) (HG : Hid (OkG n u L K X)) (HT : Hid (TabsAt w ta n TB TO A L C RB RO K X)) (HR : Hid (Rgs n u L K X)) :
    Calls Tryd.prog 12 #[.agg #[.int .i64 u.k, .int .i64 u.n, .string u.s, .int .i64 u.a, .slice ta n cp]] w fun e w' => e = .returned (.string ⟨(wrAll n u L K X).out.toArray⟩) ∧ Below w.heap.size w w' := by
  have hn : n ≤ 200 := HG.out.len
  have hmk := run_make_n 80 3 _ 1 8 Tryd.underlying80 Tryd.infoI n (by omega) (by omega)
  go_enter Tryd.func12, Tryd.ntmps12
  go_wp2
  go_region
  all_goals (try go_wp2_with fail)
  all_goals clear hmk
  · have A4 := fz_alloc4 w (.cells #[.int .i64 u.k, .int .i64 u.n, .string u.s, .int .i64 u.a, .slice ta n cp] 32) (.cells (madeCells #[.int .i64 0] n) 3) (.cells (madeCells #[.int .i64 0] n) 3) (.cells #[.int .i64 u.k, .int .i64 u.n, .string u.s, .int .i64 u.a, .slice ta n cp, .slice (some ⟨w.heap.size + 1, 0, none⟩) n n, .slice (some ⟨w.heap.size + 1 + 1, 0, none⟩) n n, .int .i64 0, .slice none 0 0] 82)
    obtain ⟨w1, hw1⟩ : ∃ w1, w1 = ((((w.alloc (.cells #[.int .i64 u.k, .int .i64 u.n, .string u.s, .int .i64 u.a, .slice ta n cp] 32)).alloc (.cells (madeCells #[.int .i64 0] n) 3)).alloc (.cells (madeCells #[.int .i64 0] n) 3)).alloc (.cells #[.int .i64 u.k, .int .i64 u.n, .string u.s, .int .i64 u.a, .slice ta n cp, .slice (some ⟨w.heap.size + 1, 0, none⟩) n n, .slice (some ⟨w.heap.size + 1 + 1, 0, none⟩) n n, .int .i64 0, .slice none 0 0] 82)).drew := ⟨_, rfl⟩
    rw [← hw1]
    have HB1 : Hid (Below w.heap.size w w1) := by rw [hw1]; exact A4.2.2.2.2.2.drew
    have HG1 : Hid (w1.heap[w.heap.size]? = some (.cells #[.int .i64 u.k, .int .i64 u.n, .string u.s, .int .i64 u.a, .slice ta n cp] 32 (0, 0))) := by rw [hw1]; exact A4.1
    have HF1 : Hid (SfW w w1 (w.heap.size + 1 + 1 + 1) (w.heap.size + 1) (w.heap.size + 1 + 1) (w.heap.size + 1 + 1 + 1 + 1) u ta n cp (fun _ => 0) ft0 (.slice none 0 0)) := by
      rw [hw1]
      exact sfw0 A4.2.2.2.2.2.drew A4.2.1 A4.2.2.1 A4.2.2.2.1
    have hz1 : w1.heap.size = w.heap.size + 4 := by rw [hw1]; exact A4.2.2.2.2.1
    have HBs : Hid (SfB w (w.heap.size + 1 + 1 + 1) (w.heap.size + 1) (w.heap.size + 1 + 1) (w.heap.size + 1 + 1 + 1 + 1)) := ⟨by omega, by omega, by omega, by omega, by omega, by omega, by omega, by omega, by omega⟩
    have HCat := cat0 (L := L) (X := X) HG.out.len (good_of HG.out) (fun r hr => (HG.out.all r hr).len) HG.out.root
    have HEv : Hid (SEnv w n TB TO cp ta A L C RB RO K X (w.heap.size + 1 + 1 + 1) (w.heap.size + 1) (w.heap.size + 1 + 1) (w.heap.size + 1 + 1 + 1 + 1) (cntAll n u L X)) := ⟨HG.out.len, fun r hr => (HG.out.all r hr).len, good_of HG.out, HT.out, HBs.out, plain_of_ok HG.out HR.out, HCat.le⟩
    have hcnt := count_any n TB TO cp ta A L C RB RO K X u w (w.heap.size + 1 + 1 + 1) (w.heap.size + 1) (w.heap.size + 1 + 1) (w.heap.size + 1 + 1 + 1 + 1) ft0 (.slice none 0 0) hn (show ∀ r, _ from fun r hr => (HG.out.all r hr).len) (good_of HG.out) HT HBs (n + 1) [] (fun _ => 0) u w1 HCat HF1
    clear hw1 A4
    refine hcnt.mono ?_
    clear hcnt HF1
    rintro e w2 ⟨rfl, hW2, hO2⟩
    have HW2 : Hid (SfW w w2 (w.heap.size + 1 + 1 + 1) (w.heap.size + 1) (w.heap.size + 1 + 1) (w.heap.size + 1 + 1 + 1 + 1) u ta n cp (cntAll n u L X) ft0 (.slice none 0 0)) := hW2
    have HG2 : Hid (w2.heap[w.heap.size]? = some (.cells #[.int .i64 u.k, .int .i64 u.n, .string u.s, .int .i64 u.a, .slice ta n cp] 32 (0, 0))) := (hO2.block _ (blk_lt HG1.out) (by omega)).trans HG1.out
    have hz2 : w.heap.size + 1 + 1 + 1 + 1 ≤ w2.heap.size := by have := hO2.size; omega
    obtain ⟨g0, g1, g2, g3, _, _⟩ := cells5 HG2.out
    have hval := sval_any w n TB TO cp ta A L C RB RO K X u (w.heap.size + 1 + 1 + 1) (w.heap.size + 1) (w.heap.size + 1 + 1) (w.heap.size + 1 + 1 + 1 + 1) (cntAll n u L X) HEv (n + 1) [] (fun _ => 0) ft0 u w2 (.slice none 0 0) (wat0 HG.out.root) ⟨short_of HG.out.root, HR.out.1⟩ (wrAll_len HG.out HR.out) hz2 HW2
    clear hW2 hO2
    go_wp2_with fail
    refine hval.mono ?_
    clear hval g0 g1 g2 g3
    rintro e w3 ⟨rfl, o3, hW3, hF3⟩
    have HW3 : Hid (SfW w w3 (w.heap.size + 1 + 1 + 1) (w.heap.size + 1) (w.heap.size + 1 + 1) (w.heap.size + 1 + 1 + 1 + 1) u ta n cp (cntAll n u L X) (wrAll n u L K X) o3) := hW3
    have hne : (wrAll n u L K X).out ≠ [] := fun e => by
      have h2 : 0 < (wrAll n u L K X).out.length := frz_pos (Q := cntAll n u L X) (L := L) (K := K) (X := X) n ft0 u
      rw [e] at h2
      simp at h2
    have hcv := own_string HW3.out.own hne
    obtain ⟨_, _, _, _, x8, _⟩ := nine_at HW3.out.blk
    obtain ⟨oa, oc, rfl, _⟩ := owns_form HW3.out.own
    obtain ⟨str, hstr⟩ : ∃ str : ByteArray, ⟨(wrAll n u L K X).out.toArray⟩ = str := ⟨_, rfl⟩
    have HST : Hid ((⟨(wrAll n u L K X).out.toArray⟩ : ByteArray) = str) := hstr
    rw [hstr] at hcv
    clear hW3 hF3 hne hstr
    go_wp2
    go_ret
    exact ⟨by rw [HST.out]; rfl, HW3.out.bel⟩
  · have A4 := fz_alloc4 w (.cells #[.int .i64 u.k, .int .i64 u.n, .string u.s, .int .i64 u.a, .slice ta n cp] 32) (.cells (madeCells #[.int .i64 0] n) 3) (.cells (madeCells #[.int .i64 0] n) 3) (.cells #[.int .i64 u.k, .int .i64 u.n, .string u.s, .int .i64 u.a, .slice ta n cp, .slice (some ⟨w.heap.size + 1 + 1, 0, none⟩) n n, .slice (some ⟨w.heap.size + 1, 0, none⟩) n n, .int .i64 0, .slice none 0 0] 82)
    obtain ⟨w1, hw1⟩ : ∃ w1, w1 = ((((w.alloc (.cells #[.int .i64 u.k, .int .i64 u.n, .string u.s, .int .i64 u.a, .slice ta n cp] 32)).alloc (.cells (madeCells #[.int .i64 0] n) 3)).alloc (.cells (madeCells #[.int .i64 0] n) 3)).alloc (.cells #[.int .i64 u.k, .int .i64 u.n, .string u.s, .int .i64 u.a, .slice ta n cp, .slice (some ⟨w.heap.size + 1 + 1, 0, none⟩) n n, .slice (some ⟨w.heap.size + 1, 0, none⟩) n n, .int .i64 0, .slice none 0 0] 82)).drew := ⟨_, rfl⟩
    rw [← hw1]
    have HB1 : Hid (Below w.heap.size w w1) := by rw [hw1]; exact A4.2.2.2.2.2.drew
    have HG1 : Hid (w1.heap[w.heap.size]? = some (.cells #[.int .i64 u.k, .int .i64 u.n, .string u.s, .int .i64 u.a, .slice ta n cp] 32 (0, 0))) := by rw [hw1]; exact A4.1
    have HF1 : Hid (SfW w w1 (w.heap.size + 1 + 1 + 1) (w.heap.size + 1 + 1) (w.heap.size + 1) (w.heap.size + 1 + 1 + 1 + 1) u ta n cp (fun _ => 0) ft0 (.slice none 0 0)) := by
      rw [hw1]
      exact sfw0 A4.2.2.2.2.2.drew A4.2.2.1 A4.2.1 A4.2.2.2.1
    have hz1 : w1.heap.size = w.heap.size + 4 := by rw [hw1]; exact A4.2.2.2.2.1
    have HBs : Hid (SfB w (w.heap.size + 1 + 1 + 1) (w.heap.size + 1 + 1) (w.heap.size + 1) (w.heap.size + 1 + 1 + 1 + 1)) := ⟨by omega, by omega, by omega, by omega, by omega, by omega, by omega, by omega, by omega⟩
    have HCat := cat0 (L := L) (X := X) HG.out.len (good_of HG.out) (fun r hr => (HG.out.all r hr).len) HG.out.root
    have HEv : Hid (SEnv w n TB TO cp ta A L C RB RO K X (w.heap.size + 1 + 1 + 1) (w.heap.size + 1 + 1) (w.heap.size + 1) (w.heap.size + 1 + 1 + 1 + 1) (cntAll n u L X)) := ⟨HG.out.len, fun r hr => (HG.out.all r hr).len, good_of HG.out, HT.out, HBs.out, plain_of_ok HG.out HR.out, HCat.le⟩
    have hcnt := count_any n TB TO cp ta A L C RB RO K X u w (w.heap.size + 1 + 1 + 1) (w.heap.size + 1 + 1) (w.heap.size + 1) (w.heap.size + 1 + 1 + 1 + 1) ft0 (.slice none 0 0) hn (show ∀ r, _ from fun r hr => (HG.out.all r hr).len) (good_of HG.out) HT HBs (n + 1) [] (fun _ => 0) u w1 HCat HF1
    clear hw1 A4
    refine hcnt.mono ?_
    clear hcnt HF1
    rintro e w2 ⟨rfl, hW2, hO2⟩
    have HW2 : Hid (SfW w w2 (w.heap.size + 1 + 1 + 1) (w.heap.size + 1 + 1) (w.heap.size + 1) (w.heap.size + 1 + 1 + 1 + 1) u ta n cp (cntAll n u L X) ft0 (.slice none 0 0)) := hW2
    have HG2 : Hid (w2.heap[w.heap.size]? = some (.cells #[.int .i64 u.k, .int .i64 u.n, .string u.s, .int .i64 u.a, .slice ta n cp] 32 (0, 0))) := (hO2.block _ (blk_lt HG1.out) (by omega)).trans HG1.out
    have hz2 : w.heap.size + 1 + 1 + 1 + 1 ≤ w2.heap.size := by have := hO2.size; omega
    obtain ⟨g0, g1, g2, g3, _, _⟩ := cells5 HG2.out
    have hval := sval_any w n TB TO cp ta A L C RB RO K X u (w.heap.size + 1 + 1 + 1) (w.heap.size + 1 + 1) (w.heap.size + 1) (w.heap.size + 1 + 1 + 1 + 1) (cntAll n u L X) HEv (n + 1) [] (fun _ => 0) ft0 u w2 (.slice none 0 0) (wat0 HG.out.root) ⟨short_of HG.out.root, HR.out.1⟩ (wrAll_len HG.out HR.out) hz2 HW2
    clear hW2 hO2
    go_wp2_with fail
    refine hval.mono ?_
    clear hval g0 g1 g2 g3
    rintro e w3 ⟨rfl, o3, hW3, hF3⟩
    have HW3 : Hid (SfW w w3 (w.heap.size + 1 + 1 + 1) (w.heap.size + 1 + 1) (w.heap.size + 1) (w.heap.size + 1 + 1 + 1 + 1) u ta n cp (cntAll n u L X) (wrAll n u L K X) o3) := hW3
    have hne : (wrAll n u L K X).out ≠ [] := fun e => by
      have h2 : 0 < (wrAll n u L K X).out.length := frz_pos (Q := cntAll n u L X) (L := L) (K := K) (X := X) n ft0 u
      rw [e] at h2
      simp at h2
    have hcv := own_string HW3.out.own hne
    obtain ⟨_, _, _, _, x8, _⟩ := nine_at HW3.out.blk
    obtain ⟨oa, oc, rfl, _⟩ := owns_form HW3.out.own
    obtain ⟨str, hstr⟩ : ∃ str : ByteArray, ⟨(wrAll n u L K X).out.toArray⟩ = str := ⟨_, rfl⟩
    have HST : Hid ((⟨(wrAll n u L K X).out.toArray⟩ : ByteArray) = str) := hstr
    rw [hstr] at hcv
    clear hW3 hF3 hne hstr
    go_wp2
    go_ret
    exact ⟨by rw [HST.out]; rfl, HW3.out.bel⟩

set_option maxHeartbeats 1000000 in
set_option maxRecDepth 100000 in
/-- 'spec.Freeze'. -/
theorem specFreeze_any (u : V) (ta : Option Addr) (n cp TB TO : Nat) (A : Nat → Option Addr) (L C RB RO : Nat → Nat) (K X : Nat → Nat → V) (w : World) (hn : n ≤ 1048576) (HS : Hid (Small 1048576 n L K X)) (HT : Hid (TabsAt w ta n TB TO A L C RB RO K X)) (HR : Hid (Rgs n u L K X)) :
    Calls Tryd.prog 5 #[.agg #[.int .i64 u.k, .int .i64 u.n, .string u.s, .int .i64 u.a, .slice ta n cp]] w fun e w' => FrzIs e n u L K X ∧ Below w.heap.size w w' := by
  obtain ⟨w0, hw0⟩ : ∃ w0, w0 = w.alloc (.cells #[.int .i64 u.k, .int .i64 u.n, .string u.s, .int .i64 u.a, .slice ta n cp] 32) := ⟨_, rfl⟩
  have HB0 : Hid (Below w.heap.size w w0) := by rw [hw0]; exact below_alloc _ _
  have HG0 : Hid (w0.heap[w.heap.size]? = some (.cells #[.int .i64 u.k, .int .i64 u.n, .string u.s, .int .i64 u.a, .slice ta n cp] 32 (0, 0))) := by rw [hw0]; exact heap_alloc_new _ _
  have hsp := specOk_any u ta n cp TB TO A L C RB RO K X w0 hn HS (HT.out.below HB0.out)
  go_enter Tryd.func5, Tryd.ntmps5
  go_wp2_with fail
  rw [← hw0]
  refine hsp.mono ?_
  clear hsp hw0
  rintro e w1 ⟨⟨bs, rfl, hbs⟩, hb1⟩
  have HB1 : Hid (Below w.heap.size w w1) := HB0.out.trans (hb1.mono HB0.out.size)
  have HG1 : Hid (w1.heap[w.heap.size]? = some (.cells #[.int .i64 u.k, .int .i64 u.n, .string u.s, .int .i64 u.a, .slice ta n cp] 32 (0, 0))) := blkB HG0.out hb1
  have HBS : Hid (bs = true ↔ OkG n u L K X) := hbs
  clear hb1 hbs HB0 HG0
  obtain ⟨g0, g1, g2, g3, g4, _⟩ := cells5 HG1.out
  cases bs with
  | false =>
    have HN : Hid (¬ OkG n u L K X) := show ¬ _ from fun h => by cases HBS.out.2 h
    go_wp2
    go_ret
    exact ⟨Or.inr ⟨HN.out, rfl⟩, HB1.out⟩
  | true =>
    have HOk : Hid (OkG n u L K X) := HBS.out.1 rfl
    have hfr := l4freeze_any u ta n cp TB TO A L C RB RO K X w1 HOk (HT.out.below HB1.out) HR
    obtain ⟨str, hstr⟩ : ∃ str : ByteArray, ⟨(wrAll n u L K X).out.toArray⟩ = str := ⟨_, rfl⟩
    have HSZ : Hid (str.size = (wrAll n u L K X).out.length) := by rw [← hstr]; show _ = _; rw [← str_len]
    have HST : Hid (frzS n u L K X = if 20000 < str.size then ⟨#[]⟩ else str) := by
      rw [HSZ.out, ← hstr]
      exact rfl
    have hsb : str.size ≤ 100000000 := by rw [HSZ.out]; exact wrAll_len HOk.out HR.out
    rw [hstr] at hfr
    clear hstr
    go_wp2_with fail
    refine hfr.mono ?_
    clear hfr g0 g1 g2 g3 g4
    rintro e w2 ⟨rfl, hb2⟩
    have HB2 : Hid (Below w.heap.size w w2) := HB1.out.trans (hb2.mono HB1.out.size)
    clear hb2
    by_cases hl : 20000 < str.size
    · have hli : (20000 : Int) < (str.size : Int) := by omega
      have hld : decide ((20000 : Int) < (str.size : Int)) = true := decide_eq_true hli
      rw [if_pos hl] at HST
      have HF : Hid (FrzIs (.returned (.string ⟨#[]⟩)) n u L K X) := Or.inl ⟨HOk.out, by rw [HST.out]⟩
      clear hl
      go_wp2
      go_ret
      exact ⟨HF.out, HB2.out⟩
    · have hli : ¬ ((20000 : Int) < (str.size : Int)) := by omega
      have hld : decide ((20000 : Int) < (str.size : Int)) = false := decide_eq_false hli
      rw [if_neg hl] at HST
      have HF : Hid (FrzIs (.returned (.string str)) n u L K X) := Or.inl ⟨HOk.out, by rw [HST.out]⟩
      clear hl
      go_wp2
      go_ret
      exact ⟨HF.out, HB2.out⟩
end Go.Proofs.YtgflalfiopnmnabDoor

namespace Go.Proofs.YtgflalfiopnmnabDoor
open Go.RowKit Vl
open Go.ChangeShapes Go.WideShapes Go.ChangeAt Go.Joins

theorem laidOutG : laidOutB Tryd.prog = true := by kernel_rfl
theorem ownG : ownKnob Tryd.prog.godebug = none := by kernel_rfl
theorem cellsG_int : Tryd.prog.cellsOf 3 = 1 := by kernel_rfl
theorem cellsG_int64 : Tryd.prog.cellsOf 2 = 1 := by kernel_rfl
theorem cellsG_string : Tryd.prog.cellsOf 9 = 1 := by kernel_rfl
theorem cellsG_val : Tryd.prog.cellsOf 23 = 4 := by kernel_rfl
theorem cellsG_pair : Tryd.prog.cellsOf 112 = 8 := by kernel_rfl
theorem cellsG_table : Tryd.prog.cellsOf 71 = 1 := by kernel_rfl
theorem cellsG_pairs : Tryd.prog.cellsOf 69 = 1 := by kernel_rfl
theorem cellsG_tables : Tryd.prog.cellsOf 24 = 1 := by kernel_rfl
theorem cellsG_graph : Tryd.prog.cellsOf 26 = 5 := by kernel_rfl

theorem four_of {α : Type} {l : List α} (h : l.length = 4) : ∃ a b c d, l = [a, b, c, d] := by
  match l, h with
  | [a, b, c, d], _ => exact ⟨a, b, c, d, rfl⟩
theorem five_of {α : Type} {l : List α} (h : l.length = 5) : ∃ a b c d e, l = [a, b, c, d, e] := by
  match l, h with
  | [a, b, c, d, e], _ => exact ⟨a, b, c, d, e, rfl⟩
theorem eight_of {α : Type} {l : List α} (h : l.length = 8) : ∃ a b c d e f g i, l = [a, b, c, d, e, f, g, i] := by
  match l, h with
  | [a, b, c, d, e, f, g, i], _ => exact ⟨a, b, c, d, e, f, g, i, rfl⟩

instance : Inhabited V := ⟨⟨0, 0, ⟨#[]⟩, 0⟩⟩

/-- The four cells of a value, as a list. -/
def vCells (v : V) : List Value := [.int .i64 v.k, .int .i64 v.n, .string v.s, .int .i64 v.a]

section
variable {H : Type} {enc : TypeId × Value → H} {w : World} {base : Nat} {spare : Nat → Bool} {held : Bool}

theorem opens_int {n : Nat} {t : TypeId} {o : Option (DataW H × List MemPlace)} {c : Value} (ht : Tryd.prog.underlying t = some (.int .i64)) (h : DataW.trod enc Tryd.prog w base spare held n t [c] = o) (ho : o.isSome = true) : ∃ k, c = .int .i64 k := by
  obtain ⟨x, hx⟩ := Option.isSome_iff_exists.1 ho
  rw [hx] at h
  obtain ⟨k, e, _, _⟩ := DataW.trod_int ht h
  exact ⟨k, by simpa using e⟩
theorem opens_string {n : Nat} {t : TypeId} {o : Option (DataW H × List MemPlace)} {c : Value} (ht : Tryd.prog.underlying t = some .string) (h : DataW.trod enc Tryd.prog w base spare held n t [c] = o) (ho : o.isSome = true) : ∃ s : ByteArray, c = .string s ∧ s.size ≤ 9223372036854775807 := by
  obtain ⟨x, hx⟩ := Option.isSome_iff_exists.1 ho
  rw [hx] at h
  obtain ⟨s, e, _, hs⟩ := DataW.trod_string ht h
  unfold maxLen at hs
  exact ⟨s, by simpa using e, by omega⟩
theorem isSome_at {α : Type} {l : List α} {i : Nat} (h : i < l.length) : (l[i]?).isSome = true := by simp [h]

theorem opens_val {fuel : Nat} {cs : List Value} {x : DataW H × List MemPlace} (h : DataW.trod enc Tryd.prog w base spare held fuel 23 cs = some x) : ∃ v : V, cs = vCells v ∧ v.s.size ≤ 9223372036854775807 := by
  obtain ⟨xs, n, _, _, hlen, hl, hf⟩ := DataW.trod_struct Tryd.underlying23 h
  rw [cellsG_val] at hlen
  obtain ⟨c0, c1, c2, c3, rfl⟩ := four_of hlen
  have hl4 : xs.length = 4 := hl
  have f0 : DataW.trod enc Tryd.prog w base spare held n 3 (([c0, c1, c2, c3].drop 0).take (Tryd.prog.cellsOf 3)) = xs[0]? := hf 0 _ rfl
  have f1 : DataW.trod enc Tryd.prog w base spare held n 2 (([c0, c1, c2, c3].drop 1).take (Tryd.prog.cellsOf 2)) = xs[1]? := hf 1 _ rfl
  have f2 : DataW.trod enc Tryd.prog w base spare held n 9 (([c0, c1, c2, c3].drop 2).take (Tryd.prog.cellsOf 9)) = xs[2]? := hf 2 _ rfl
  have f3 : DataW.trod enc Tryd.prog w base spare held n 3 (([c0, c1, c2, c3].drop 3).take (Tryd.prog.cellsOf 3)) = xs[3]? := hf 3 _ rfl
  rw [cellsG_int] at f0 f3
  rw [cellsG_int64] at f1
  rw [cellsG_string] at f2
  obtain ⟨k, rfl⟩ := opens_int Tryd.underlying3 (c := c0) f0 (isSome_at (by omega))
  obtain ⟨m, rfl⟩ := opens_int Tryd.underlying2 (c := c1) f1 (isSome_at (by omega))
  obtain ⟨s, rfl, hs⟩ := opens_string Tryd.underlying9 (c := c2) f2 (isSome_at (by omega))
  obtain ⟨a, rfl⟩ := opens_int Tryd.underlying3 (c := c3) f3 (isSome_at (by omega))
  exact ⟨⟨k, m, s, a⟩, rfl, hs⟩

theorem opens_pair {fuel : Nat} {cs : List Value} {x : DataW H × List MemPlace} (h : DataW.trod enc Tryd.prog w base spare held fuel 112 cs = some x) : ∃ u v : V, cs = vCells u ++ vCells v ∧ u.s.size ≤ 9223372036854775807 ∧ v.s.size ≤ 9223372036854775807 := by
  obtain ⟨xs, n, _, _, hlen, hl, hf⟩ := DataW.trod_struct Tryd.underlying112 h
  rw [cellsG_pair] at hlen
  have hl2 : xs.length = 2 := hl
  have f0 : DataW.trod enc Tryd.prog w base spare held n 23 ((cs.drop 0).take (Tryd.prog.cellsOf 23)) = xs[0]? := hf 0 _ rfl
  have f1 : DataW.trod enc Tryd.prog w base spare held n 23 ((cs.drop 4).take (Tryd.prog.cellsOf 23)) = xs[1]? := hf 1 _ rfl
  rw [cellsG_val] at f0 f1
  obtain ⟨y0, e0⟩ := Option.isSome_iff_exists.1 (isSome_at (l := xs) (i := 0) (by omega))
  obtain ⟨y1, e1⟩ := Option.isSome_iff_exists.1 (isSome_at (l := xs) (i := 1) (by omega))
  rw [e0] at f0
  rw [e1] at f1
  obtain ⟨u, hu, su⟩ := opens_val f0
  obtain ⟨v, hv, sv⟩ := opens_val f1
  refine ⟨u, v, ?_, su, sv⟩
  obtain ⟨c0, c1, c2, c3, c4, c5, c6, c7, rfl⟩ := eight_of hlen
  rw [← hu, ← hv]
  rfl

theorem plain_of {w : World} {a : Addr} {v : Value} (h : w.cell? (a.add 0) = some v) : a = ⟨a.block, a.off, none⟩ := by
  obtain ⟨b, off, spot⟩ := a
  have hspot : spot = none := by simpa [Addr.add] using World.cell?_spot h
  subst hspot
  rfl
theorem add_plain (b o i : Nat) : Addr.add ⟨b, o, none⟩ i = ⟨b, o + i, none⟩ := by
  unfold Addr.add
  by_cases h : i = 0 <;> simp [h]

/-- A slice of pairs that came in. -/
theorem opens_pairs {fuel : Nat} {c : Value} {x : DataW H × List MemPlace} (h : DataW.trod enc Tryd.prog w base (fun _ => true) held fuel 69 [c] = some x) :
    ∃ (pa : Option Addr) (L C B O : Nat) (K X : Nat → V), c = .slice pa L C ∧ L ≤ 9223372036854775807 ∧ PairsAt w pa L B O K X ∧ ∀ j, j < L → (K j).s.size ≤ 9223372036854775807 ∧ (X j).s.size ≤ 9223372036854775807 := by
  rcases Deep.open_slice Tryd.underlying69 h with ⟨hcs, _⟩ | ⟨a, len, cap, m, n, D, Pl, hcs, hb, hl, hm, hmm, hx, hall⟩
  · obtain rfl : c = .slice none 0 0 := by simpa using hcs
    exact ⟨none, 0, 0, 0, 0, fun _ => ⟨0, 0, ⟨#[]⟩, 0⟩, fun _ => ⟨0, 0, ⟨#[]⟩, 0⟩, rfl, by omega, ⟨fun h => by omega, fun j hj => by omega, fun j hj => by omega⟩, fun j hj => by omega⟩
  · obtain rfl : c = .slice (some a) len cap := by simpa using hcs
    unfold maxLen at hm
    simp only [if_true] at hmm
    have each : ∀ j, j < len → ∃ q : V × V, (∀ i v, (vCells q.1 ++ vCells q.2)[i]? = some v → w.cell? (a.add (j * 8 + i)) = some v) ∧ q.1.s.size ≤ 9223372036854775807 ∧ q.2.s.size ≤ 9223372036854775807 := by
      intro j hj
      obtain ⟨cs', h1, h2⟩ := hall j (by omega)
      rw [cellsG_pair] at h1
      obtain ⟨u, v, rfl, su, sv⟩ := opens_pair h2
      obtain ⟨_, hlen, hcell⟩ := World.cells?_some h1
      refine ⟨(u, v), fun i y hy => ?_, su, sv⟩
      have hi : i < 8 := by
        rcases Nat.lt_or_ge i 8 with h | h
        · exact h
        · rw [List.getElem?_eq_none (by simp [vCells]; omega)] at hy; cases hy
      have := hcell i hi
      rw [Deep.add_add, hy] at this
      exact this
    obtain ⟨q, hq⟩ := Deep.choose_lt (α := V × V) (n := len) (p := fun j q => (∀ i v, (vCells q.1 ++ vCells q.2)[i]? = some v → w.cell? (a.add (j * 8 + i)) = some v) ∧ q.1.s.size ≤ 9223372036854775807 ∧ q.2.s.size ≤ 9223372036854775807) each
    have hp : 0 < len → a = ⟨a.block, a.off, none⟩ := fun h0 => plain_of (v := .int .i64 (q 0).1.k) (by have := (hq 0 h0).1 0 _ rfl; simpa using this)
    refine ⟨some a, len, cap, a.block, a.off, fun j => (q j).1, fun j => (q j).2, rfl, by omega, ⟨fun h0 => by rw [← hp h0], fun j hj => ?_, fun j hj => ?_⟩, fun j hj => (hq j hj).2⟩
    all_goals
      have g : ∀ i v, (vCells (q j).1 ++ vCells (q j).2)[i]? = some v → w.cell? ⟨a.block, a.off + (j * 8 + i), none⟩ = some v := fun i v hv => by
        have := (hq j hj).1 i v hv
        rw [hp (by omega), add_plain] at this
        exact this
    · exact ⟨g 0 _ rfl, g 1 _ rfl, g 2 _ rfl, g 3 _ rfl⟩
    · exact ⟨g 4 _ rfl, g 5 _ rfl, g 6 _ rfl, g 7 _ rfl⟩

/-- A slice of tables that came in. -/
theorem opens_tables {fuel : Nat} {c : Value} {x : DataW H × List MemPlace} (h : DataW.trod enc Tryd.prog w base (fun _ => true) held fuel 24 [c] = some x) :
    ∃ (ta : Option Addr) (n cp TB TO : Nat) (A : Nat → Option Addr) (L C RB RO : Nat → Nat) (K X : Nat → Nat → V), c = .slice ta n cp ∧ n ≤ 9223372036854775807 ∧ TabsAt w ta n TB TO A L C RB RO K X ∧ Small 9223372036854775807 n L K X := by
  rcases Deep.open_slice1 Tryd.underlying24 cellsG_table h with ⟨hcs, _⟩ | ⟨a, len, cap, m, n, V', D, Pl, hcs, hb, hl, hm, hmm, hx, hall⟩
  · obtain rfl : c = .slice none 0 0 := by simpa using hcs
    exact ⟨none, 0, 0, 0, 0, fun _ => none, fun _ => 0, fun _ => 0, fun _ => 0, fun _ => 0, fun _ _ => ⟨0, 0, ⟨#[]⟩, 0⟩, fun _ _ => ⟨0, 0, ⟨#[]⟩, 0⟩, rfl, by omega, ⟨fun h => by omega, fun j hj => by omega, fun j hj => by omega⟩, fun j hj => by omega⟩
  · obtain rfl : c = .slice (some a) len cap := by simpa using hcs
    unfold maxLen at hm
    simp only [if_true] at hmm
    have each : ∀ r, r < len → ∃ y : Option Addr × Nat × Nat × Nat × Nat × (Nat → V) × (Nat → V), w.cell? (a.add r) = some (.slice y.1 y.2.1 y.2.2.1) ∧ y.2.1 ≤ 9223372036854775807 ∧ PairsAt w y.1 y.2.1 y.2.2.2.1 y.2.2.2.2.1 y.2.2.2.2.2.1 y.2.2.2.2.2.2 ∧ ∀ j, j < y.2.1 → (y.2.2.2.2.2.1 j).s.size ≤ 9223372036854775807 ∧ (y.2.2.2.2.2.2 j).s.size ≤ 9223372036854775807 := by
      intro r hr
      obtain ⟨h1, h2⟩ := hall r (by omega)
      obtain ⟨xs, k, _, _, hlen, hl2, hf⟩ := DataW.trod_struct Tryd.underlying71 h2
      have hl1 : xs.length = 1 := hl2
      have f0 : DataW.trod enc Tryd.prog w base (fun _ => true) held k 69 (([V' r].drop 0).take (Tryd.prog.cellsOf 69)) = xs[0]? := hf 0 _ rfl
      rw [cellsG_pairs] at f0
      obtain ⟨y0, e0⟩ := Option.isSome_iff_exists.1 (isSome_at (l := xs) (i := 0) (by omega))
      rw [e0] at f0
      obtain ⟨pa, L, C, B, O, K, X, hc, hL, hP, hS⟩ := opens_pairs (c := V' r) f0
      exact ⟨(pa, L, C, B, O, K, X), by rw [h1, hc], hL, hP, hS⟩
    obtain ⟨y, hy⟩ := Deep.choose_lt (α := Option Addr × Nat × Nat × Nat × Nat × (Nat → V) × (Nat → V)) (n := len) (p := fun r y => w.cell? (a.add r) = some (.slice y.1 y.2.1 y.2.2.1) ∧ y.2.1 ≤ 9223372036854775807 ∧ PairsAt w y.1 y.2.1 y.2.2.2.1 y.2.2.2.2.1 y.2.2.2.2.2.1 y.2.2.2.2.2.2 ∧ ∀ j, j < y.2.1 → (y.2.2.2.2.2.1 j).s.size ≤ 9223372036854775807 ∧ (y.2.2.2.2.2.2 j).s.size ≤ 9223372036854775807) each
    have hp : 0 < len → a = ⟨a.block, a.off, none⟩ := fun h0 => plain_of (hy 0 h0).1
    refine ⟨some a, len, cap, a.block, a.off, fun r => (y r).1, fun r => (y r).2.1, fun r => (y r).2.2.1, fun r => (y r).2.2.2.1, fun r => (y r).2.2.2.2.1, fun r => (y r).2.2.2.2.2.1, fun r => (y r).2.2.2.2.2.2, rfl, by omega, ⟨fun h0 => by rw [← hp h0], fun r hr => ?_, fun r hr => (hy r hr).2.2.1⟩, fun r hr => ⟨(hy r hr).2.1, (hy r hr).2.2.2⟩⟩
    have := (hy r hr).1
    rw [hp (by omega), add_plain] at this
    exact this

set_option maxRecDepth 100000 in
/-- A graph that came in. -/
theorem opens_graph {r : Reach} {b0 : Nat} {v : Value} {d : DataW H} {p : List MemPlace} (hv : Value.okWide Tryd.prog w r b0 26 v) (h : DataW.Trod enc Tryd.prog w base (fun _ => true) held 26 v d p) :
    ∃ (u : V) (ta : Option Addr) (n cp TB TO : Nat) (A : Nat → Option Addr) (L C RB RO : Nat → Nat) (K X : Nat → Nat → V), v = .agg #[.int .i64 u.k, .int .i64 u.n, .string u.s, .int .i64 u.a, .slice ta n cp] ∧ u.s.size ≤ 9223372036854775807 ∧ n ≤ 9223372036854775807 ∧ TabsAt w ta n TB TO A L C RB RO K X ∧ Small 9223372036854775807 n L K X := by
  obtain ⟨cs, rfl, hsz⟩ := okWide_struct Tryd.underlying26 hv
  obtain ⟨fuel, hf0⟩ := h
  obtain ⟨xs, k, _, _, hlen, hl2, hf⟩ := DataW.trod_struct Tryd.underlying26 hf0
  have hl : xs.length = 2 := hl2
  have hcs : cs.toList.length = 5 := by rw [Array.length_toList, hsz]; exact cellsG_graph
  obtain ⟨c0, c1, c2, c3, c4, e5⟩ := five_of hcs
  obtain rfl : cs = #[c0, c1, c2, c3, c4] := by cases cs; simp_all
  have f0 : DataW.trod enc Tryd.prog w base (fun _ => true) held k 23 (([c0, c1, c2, c3, c4].drop 0).take (Tryd.prog.cellsOf 23)) = xs[0]? := hf 0 _ rfl
  have f1 : DataW.trod enc Tryd.prog w base (fun _ => true) held k 24 (([c0, c1, c2, c3, c4].drop 4).take (Tryd.prog.cellsOf 24)) = xs[1]? := hf 1 _ rfl
  rw [cellsG_val] at f0
  rw [cellsG_tables] at f1
  obtain ⟨y0, e0⟩ := Option.isSome_iff_exists.1 (isSome_at (l := xs) (i := 0) (by omega))
  obtain ⟨y1, e1⟩ := Option.isSome_iff_exists.1 (isSome_at (l := xs) (i := 1) (by omega))
  rw [e0] at f0
  rw [e1] at f1
  obtain ⟨u, hu, su⟩ := opens_val (cs := [c0, c1, c2, c3]) f0
  obtain ⟨ta, n, cp, TB, TO, A, L, C, RB, RO, K, X, hc, hn, hT, hS⟩ := opens_tables (c := c4) f1
  unfold vCells at hu
  simp only [List.cons.injEq, and_true] at hu
  obtain ⟨rfl, rfl, rfl, rfl⟩ := hu
  subst hc
  exact ⟨u, ta, n, cp, TB, TO, A, L, C, RB, RO, K, X, rfl, su, hn, hT, hS⟩
end

end Go.Proofs.YtgflalfiopnmnabDoor

namespace Go.Proofs.YtgflalfiopnmnabDoor
open Go.RowKit Vl
open Go.RowKit Vl
open Go.ChangeShapes Go.WideShapes Go.ChangeAt Go.Joins

/-- A value that came in: its number is an int64. -/
def Sz (v : V) : Prop := v.s.size ≤ 9223372036854775807 ∧ -9223372036854775808 ≤ v.n ∧ v.n ≤ 9223372036854775807
def SmallR (n : Nat) (L : Nat → Nat) (K X : Nat → Nat → V) : Prop := ∀ r, r < n → L r ≤ 9223372036854775807 ∧ ∀ j, j < L r → Sz (K r j) ∧ Sz (X r j)

section
variable {H : Type} {enc : TypeId × Value → H} {w : World} {base : Nat} {spare : Nat → Bool} {held : Bool}

theorem opensR_int {n : Nat} {t : TypeId} {o : Option (DataW H × List MemPlace)} {c : Value} (ht : Tryd.prog.underlying t = some (.int .i64)) (h : DataW.trod enc Tryd.prog w base spare held n t [c] = o) (ho : o.isSome = true) : ∃ k, c = .int .i64 k ∧ -9223372036854775808 ≤ k ∧ k ≤ 9223372036854775807 := by
  obtain ⟨x, hx⟩ := Option.isSome_iff_exists.1 ho
  rw [hx] at h
  obtain ⟨k, e, _, hw⟩ := DataW.trod_int ht h
  refine ⟨k, by simpa using e, ?_⟩
  have hw' : IntKind.i64.min ≤ k ∧ k ≤ 9223372036854775807 := by simpa [Lit.wf] using hw
  have hmin : IntKind.i64.min = -9223372036854775808 := rfl
  omega
theorem opensR_val {fuel : Nat} {cs : List Value} {x : DataW H × List MemPlace} (h : DataW.trod enc Tryd.prog w base spare held fuel 23 cs = some x) : ∃ v : V, cs = vCells v ∧ Sz v := by
  obtain ⟨xs, n, _, _, hlen, hl, hf⟩ := DataW.trod_struct Tryd.underlying23 h
  rw [cellsG_val] at hlen
  obtain ⟨c0, c1, c2, c3, rfl⟩ := four_of hlen
  have hl4 : xs.length = 4 := hl
  have f0 : DataW.trod enc Tryd.prog w base spare held n 3 (([c0, c1, c2, c3].drop 0).take (Tryd.prog.cellsOf 3)) = xs[0]? := hf 0 _ rfl
  have f1 : DataW.trod enc Tryd.prog w base spare held n 2 (([c0, c1, c2, c3].drop 1).take (Tryd.prog.cellsOf 2)) = xs[1]? := hf 1 _ rfl
  have f2 : DataW.trod enc Tryd.prog w base spare held n 9 (([c0, c1, c2, c3].drop 2).take (Tryd.prog.cellsOf 9)) = xs[2]? := hf 2 _ rfl
  have f3 : DataW.trod enc Tryd.prog w base spare held n 3 (([c0, c1, c2, c3].drop 3).take (Tryd.prog.cellsOf 3)) = xs[3]? := hf 3 _ rfl
  rw [cellsG_int] at f0 f3
  rw [cellsG_int64] at f1
  rw [cellsG_string] at f2
  obtain ⟨k, rfl⟩ := opens_int Tryd.underlying3 (c := c0) f0 (isSome_at (by omega))
  obtain ⟨m, rfl, hm0, hm1⟩ := opensR_int Tryd.underlying2 (c := c1) f1 (isSome_at (by omega))
  obtain ⟨s, rfl, hs⟩ := opens_string Tryd.underlying9 (c := c2) f2 (isSome_at (by omega))
  obtain ⟨a, rfl⟩ := opens_int Tryd.underlying3 (c := c3) f3 (isSome_at (by omega))
  exact ⟨⟨k, m, s, a⟩, rfl, hs, hm0, hm1⟩

theorem opensR_pair {fuel : Nat} {cs : List Value} {x : DataW H × List MemPlace} (h : DataW.trod enc Tryd.prog w base spare held fuel 112 cs = some x) : ∃ u v : V, cs = vCells u ++ vCells v ∧ Sz u ∧ Sz v := by
  obtain ⟨xs, n, _, _, hlen, hl, hf⟩ := DataW.trod_struct Tryd.underlying112 h
  rw [cellsG_pair] at hlen
  have hl2 : xs.length = 2 := hl
  have f0 : DataW.trod enc Tryd.prog w base spare held n 23 ((cs.drop 0).take (Tryd.prog.cellsOf 23)) = xs[0]? := hf 0 _ rfl
  have f1 : DataW.trod enc Tryd.prog w base spare held n 23 ((cs.drop 4).take (Tryd.prog.cellsOf 23)) = xs[1]? := hf 1 _ rfl
  rw [cellsG_val] at f0 f1
  obtain ⟨y0, e0⟩ := Option.isSome_iff_exists.1 (isSome_at (l := xs) (i := 0) (by omega))
  obtain ⟨y1, e1⟩ := Option.isSome_iff_exists.1 (isSome_at (l := xs) (i := 1) (by omega))
  rw [e0] at f0
  rw [e1] at f1
  obtain ⟨u, hu, su⟩ := opensR_val f0
  obtain ⟨v, hv, sv⟩ := opensR_val f1
  refine ⟨u, v, ?_, su, sv⟩
  obtain ⟨c0, c1, c2, c3, c4, c5, c6, c7, rfl⟩ := eight_of hlen
  rw [← hu, ← hv]
  rfl

/-- A slice of pairs that came in. -/
theorem opensR_pairs {fuel : Nat} {c : Value} {x : DataW H × List MemPlace} (h : DataW.trod enc Tryd.prog w base (fun _ => true) held fuel 69 [c] = some x) :
    ∃ (pa : Option Addr) (L C B O : Nat) (K X : Nat → V), c = .slice pa L C ∧ L ≤ 9223372036854775807 ∧ PairsAt w pa L B O K X ∧ ∀ j, j < L → Sz (K j) ∧ Sz (X j) := by
  rcases Deep.open_slice Tryd.underlying69 h with ⟨hcs, _⟩ | ⟨a, len, cap, m, n, D, Pl, hcs, hb, hl, hm, hmm, hx, hall⟩
  · obtain rfl : c = .slice none 0 0 := by simpa using hcs
    exact ⟨none, 0, 0, 0, 0, fun _ => ⟨0, 0, ⟨#[]⟩, 0⟩, fun _ => ⟨0, 0, ⟨#[]⟩, 0⟩, rfl, by omega, ⟨fun h => by omega, fun j hj => by omega, fun j hj => by omega⟩, fun j hj => by omega⟩
  · obtain rfl : c = .slice (some a) len cap := by simpa using hcs
    unfold maxLen at hm
    simp only [if_true] at hmm
    have each : ∀ j, j < len → ∃ q : V × V, (∀ i v, (vCells q.1 ++ vCells q.2)[i]? = some v → w.cell? (a.add (j * 8 + i)) = some v) ∧ Sz q.1 ∧ Sz q.2 := by
      intro j hj
      obtain ⟨cs', h1, h2⟩ := hall j (by omega)
      rw [cellsG_pair] at h1
      obtain ⟨u, v, rfl, su, sv⟩ := opensR_pair h2
      obtain ⟨_, hlen, hcell⟩ := World.cells?_some h1
      refine ⟨(u, v), fun i y hy => ?_, su, sv⟩
      have hi : i < 8 := by
        rcases Nat.lt_or_ge i 8 with h | h
        · exact h
        · rw [List.getElem?_eq_none (by simp [vCells]; omega)] at hy; cases hy
      have := hcell i hi
      rw [Deep.add_add, hy] at this
      exact this
    obtain ⟨q, hq⟩ := Deep.choose_lt (α := V × V) (n := len) (p := fun j q => (∀ i v, (vCells q.1 ++ vCells q.2)[i]? = some v → w.cell? (a.add (j * 8 + i)) = some v) ∧ Sz q.1 ∧ Sz q.2) each
    have hp : 0 < len → a = ⟨a.block, a.off, none⟩ := fun h0 => plain_of (v := .int .i64 (q 0).1.k) (by have := (hq 0 h0).1 0 _ rfl; simpa using this)
    refine ⟨some a, len, cap, a.block, a.off, fun j => (q j).1, fun j => (q j).2, rfl, by omega, ⟨fun h0 => by rw [← hp h0], fun j hj => ?_, fun j hj => ?_⟩, fun j hj => (hq j hj).2⟩
    all_goals
      have g : ∀ i v, (vCells (q j).1 ++ vCells (q j).2)[i]? = some v → w.cell? ⟨a.block, a.off + (j * 8 + i), none⟩ = some v := fun i v hv => by
        have := (hq j hj).1 i v hv
        rw [hp (by omega), add_plain] at this
        exact this
    · exact ⟨g 0 _ rfl, g 1 _ rfl, g 2 _ rfl, g 3 _ rfl⟩
    · exact ⟨g 4 _ rfl, g 5 _ rfl, g 6 _ rfl, g 7 _ rfl⟩

/-- A slice of tables that came in. -/
theorem opensR_tables {fuel : Nat} {c : Value} {x : DataW H × List MemPlace} (h : DataW.trod enc Tryd.prog w base (fun _ => true) held fuel 24 [c] = some x) :
    ∃ (ta : Option Addr) (n cp TB TO : Nat) (A : Nat → Option Addr) (L C RB RO : Nat → Nat) (K X : Nat → Nat → V), c = .slice ta n cp ∧ n ≤ 9223372036854775807 ∧ TabsAt w ta n TB TO A L C RB RO K X ∧ SmallR n L K X := by
  rcases Deep.open_slice1 Tryd.underlying24 cellsG_table h with ⟨hcs, _⟩ | ⟨a, len, cap, m, n, V', D, Pl, hcs, hb, hl, hm, hmm, hx, hall⟩
  · obtain rfl : c = .slice none 0 0 := by simpa using hcs
    exact ⟨none, 0, 0, 0, 0, fun _ => none, fun _ => 0, fun _ => 0, fun _ => 0, fun _ => 0, fun _ _ => ⟨0, 0, ⟨#[]⟩, 0⟩, fun _ _ => ⟨0, 0, ⟨#[]⟩, 0⟩, rfl, by omega, ⟨fun h => by omega, fun j hj => by omega, fun j hj => by omega⟩, fun j hj => by omega⟩
  · obtain rfl : c = .slice (some a) len cap := by simpa using hcs
    unfold maxLen at hm
    simp only [if_true] at hmm
    have each : ∀ r, r < len → ∃ y : Option Addr × Nat × Nat × Nat × Nat × (Nat → V) × (Nat → V), w.cell? (a.add r) = some (.slice y.1 y.2.1 y.2.2.1) ∧ y.2.1 ≤ 9223372036854775807 ∧ PairsAt w y.1 y.2.1 y.2.2.2.1 y.2.2.2.2.1 y.2.2.2.2.2.1 y.2.2.2.2.2.2 ∧ ∀ j, j < y.2.1 → Sz (y.2.2.2.2.2.1 j) ∧ Sz (y.2.2.2.2.2.2 j) := by
      intro r hr
      obtain ⟨h1, h2⟩ := hall r (by omega)
      obtain ⟨xs, k, _, _, hlen, hl2, hf⟩ := DataW.trod_struct Tryd.underlying71 h2
      have hl1 : xs.length = 1 := hl2
      have f0 : DataW.trod enc Tryd.prog w base (fun _ => true) held k 69 (([V' r].drop 0).take (Tryd.prog.cellsOf 69)) = xs[0]? := hf 0 _ rfl
      rw [cellsG_pairs] at f0
      obtain ⟨y0, e0⟩ := Option.isSome_iff_exists.1 (isSome_at (l := xs) (i := 0) (by omega))
      rw [e0] at f0
      obtain ⟨pa, L, C, B, O, K, X, hc, hL, hP, hS⟩ := opensR_pairs (c := V' r) f0
      exact ⟨(pa, L, C, B, O, K, X), by rw [h1, hc], hL, hP, hS⟩
    obtain ⟨y, hy⟩ := Deep.choose_lt (α := Option Addr × Nat × Nat × Nat × Nat × (Nat → V) × (Nat → V)) (n := len) (p := fun r y => w.cell? (a.add r) = some (.slice y.1 y.2.1 y.2.2.1) ∧ y.2.1 ≤ 9223372036854775807 ∧ PairsAt w y.1 y.2.1 y.2.2.2.1 y.2.2.2.2.1 y.2.2.2.2.2.1 y.2.2.2.2.2.2 ∧ ∀ j, j < y.2.1 → Sz (y.2.2.2.2.2.1 j) ∧ Sz (y.2.2.2.2.2.2 j)) each
    have hp : 0 < len → a = ⟨a.block, a.off, none⟩ := fun h0 => plain_of (hy 0 h0).1
    refine ⟨some a, len, cap, a.block, a.off, fun r => (y r).1, fun r => (y r).2.1, fun r => (y r).2.2.1, fun r => (y r).2.2.2.1, fun r => (y r).2.2.2.2.1, fun r => (y r).2.2.2.2.2.1, fun r => (y r).2.2.2.2.2.2, rfl, by omega, ⟨fun h0 => by rw [← hp h0], fun r hr => ?_, fun r hr => (hy r hr).2.2.1⟩, fun r hr => ⟨(hy r hr).2.1, (hy r hr).2.2.2⟩⟩
    have := (hy r hr).1
    rw [hp (by omega), add_plain] at this
    exact this

set_option maxRecDepth 100000 in
/-- A graph that came in. -/
theorem opensR_graph {r : Reach} {b0 : Nat} {v : Value} {d : DataW H} {p : List MemPlace} (hv : Value.okWide Tryd.prog w r b0 26 v) (h : DataW.Trod enc Tryd.prog w base (fun _ => true) held 26 v d p) :
    ∃ (u : V) (ta : Option Addr) (n cp TB TO : Nat) (A : Nat → Option Addr) (L C RB RO : Nat → Nat) (K X : Nat → Nat → V), v = .agg #[.int .i64 u.k, .int .i64 u.n, .string u.s, .int .i64 u.a, .slice ta n cp] ∧ Sz u ∧ n ≤ 9223372036854775807 ∧ TabsAt w ta n TB TO A L C RB RO K X ∧ SmallR n L K X := by
  obtain ⟨cs, rfl, hsz⟩ := okWide_struct Tryd.underlying26 hv
  obtain ⟨fuel, hf0⟩ := h
  obtain ⟨xs, k, _, _, hlen, hl2, hf⟩ := DataW.trod_struct Tryd.underlying26 hf0
  have hl : xs.length = 2 := hl2
  have hcs : cs.toList.length = 5 := by rw [Array.length_toList, hsz]; exact cellsG_graph
  obtain ⟨c0, c1, c2, c3, c4, e5⟩ := five_of hcs
  obtain rfl : cs = #[c0, c1, c2, c3, c4] := by cases cs; simp_all
  have f0 : DataW.trod enc Tryd.prog w base (fun _ => true) held k 23 (([c0, c1, c2, c3, c4].drop 0).take (Tryd.prog.cellsOf 23)) = xs[0]? := hf 0 _ rfl
  have f1 : DataW.trod enc Tryd.prog w base (fun _ => true) held k 24 (([c0, c1, c2, c3, c4].drop 4).take (Tryd.prog.cellsOf 24)) = xs[1]? := hf 1 _ rfl
  rw [cellsG_val] at f0
  rw [cellsG_tables] at f1
  obtain ⟨y0, e0⟩ := Option.isSome_iff_exists.1 (isSome_at (l := xs) (i := 0) (by omega))
  obtain ⟨y1, e1⟩ := Option.isSome_iff_exists.1 (isSome_at (l := xs) (i := 1) (by omega))
  rw [e0] at f0
  rw [e1] at f1
  obtain ⟨u, hu, su⟩ := opensR_val (cs := [c0, c1, c2, c3]) f0
  obtain ⟨ta, n, cp, TB, TO, A, L, C, RB, RO, K, X, hc, hn, hT, hS⟩ := opensR_tables (c := c4) f1
  unfold vCells at hu
  simp only [List.cons.injEq, and_true] at hu
  obtain ⟨rfl, rfl, rfl, rfl⟩ := hu
  subst hc
  exact ⟨u, ta, n, cp, TB, TO, A, L, C, RB, RO, K, X, rfl, su, hn, hT, hS⟩
end

end Go.Proofs.YtgflalfiopnmnabDoor

namespace Go.Proofs.YtgflalfiopnmnabDoor
open Go.RowKit Vl
open Go.ChangeShapes Go.WideShapes Go.ChangeAt Go.Joins

theorem FrzIs.str {e : Ending} {n : Nat} {u : V} {L : Nat → Nat} {K X : Nat → Nat → V} (h : FrzIs e n u L K X) : ∃ s, e = .returned (.string s) ∧ FrzIs (.returned (.string s)) n u L K X := by
  rcases h with ⟨hG, rfl⟩ | ⟨hN, rfl⟩
  · exact ⟨_, rfl, Or.inl ⟨hG, rfl⟩⟩
  · exact ⟨_, rfl, Or.inr ⟨hN, rfl⟩⟩
theorem FrzIs.same {a b : ByteArray} {n : Nat} {u : V} {L : Nat → Nat} {K X : Nat → Nat → V} (h : FrzIs (.returned (.string a)) n u L K X) (k : FrzIs (.returned (.string b)) n u L K X) : a = b := by
  rcases h with ⟨hG, h⟩ | ⟨hN, h⟩ <;> rcases k with ⟨kG, k⟩ | ⟨kN, k⟩
  · simp at h k; rw [h, k]
  · exact absurd hG kN
  · exact absurd kG hN
  · simp at h k; rw [h, k]

theorem blk_below {w w' : World} {b : Nat} {o : Obj} (h : w.heap[b]? = some o) (hb : Below w.heap.size w w') : w'.heap[b]? = some o := (hb.block b (blk_lt h)).trans h

theorem keep55 {w0 w w' : World} {B B' : Nat} {c0 c1 c2 c3 c4 d0 d1 d2 d3 d4 : Value}
    (h : (w.cell? ⟨B, 0, none⟩ = some c0 ∧ w.cell? ⟨B, 1, none⟩ = some c1 ∧ w.cell? ⟨B, 2, none⟩ = some c2 ∧ w.cell? ⟨B, 3, none⟩ = some c3 ∧ w.cell? ⟨B, 4, none⟩ = some c4) ∧ (w.cell? ⟨B', 0, none⟩ = some d0 ∧ w.cell? ⟨B', 1, none⟩ = some d1 ∧ w.cell? ⟨B', 2, none⟩ = some d2 ∧ w.cell? ⟨B', 3, none⟩ = some d3 ∧ w.cell? ⟨B', 4, none⟩ = some d4) ∧ Hid (Below w0.heap.size w0 w)) (hb : Below w.heap.size w w') :
    (w'.cell? ⟨B, 0, none⟩ = some c0 ∧ w'.cell? ⟨B, 1, none⟩ = some c1 ∧ w'.cell? ⟨B, 2, none⟩ = some c2 ∧ w'.cell? ⟨B, 3, none⟩ = some c3 ∧ w'.cell? ⟨B, 4, none⟩ = some c4) ∧ (w'.cell? ⟨B', 0, none⟩ = some d0 ∧ w'.cell? ⟨B', 1, none⟩ = some d1 ∧ w'.cell? ⟨B', 2, none⟩ = some d2 ∧ w'.cell? ⟨B', 3, none⟩ = some d3 ∧ w'.cell? ⟨B', 4, none⟩ = some d4) ∧ Hid (Below w0.heap.size w0 w') := by
  obtain ⟨⟨h0, h1, h2, h3, h4⟩, ⟨k0, k1, k2, k3, k4⟩, hw⟩ := h
  have l1 : B < w.heap.size := World.block_lt_of_cell? _ _ h0
  have l2 : B' < w.heap.size := World.block_lt_of_cell? _ _ k0
  exact ⟨⟨(hb.cell l1).trans h0, (hb.cell l1).trans h1, (hb.cell l1).trans h2, (hb.cell l1).trans h3, (hb.cell l1).trans h4⟩, ⟨(hb.cell l2).trans k0, (hb.cell l2).trans k1, (hb.cell l2).trans k2, (hb.cell l2).trans k3, (hb.cell l2).trans k4⟩, grw hw.out hb⟩

set_option maxHeartbeats 1000000 in
set_option maxRecDepth 100000 in
theorem freezeLaw (u : V) (ta : Option Addr) (n cp TB TO : Nat) (A : Nat → Option Addr) (L C RB RO : Nat → Nat) (K X : Nat → Nat → V) (w : World) (hu : u.s.size ≤ 9223372036854775807) (hn : n ≤ 9223372036854775807)
    (HS : Hid (Small 9223372036854775807 n L K X)) (HT : Hid (TabsAt w ta n TB TO A L C RB RO K X)) (HTab : Hid (Tab w)) (HRg : Hid (Rgs n u L K X)) :
    Calls Tryd.prog 3 #[.agg #[.int .i64 u.k, .int .i64 u.n, .string u.s, .int .i64 u.a, .slice ta n cp]] w fun e w' => e = .returned (.bool true) ∧ Below w.heap.size w w' := by
  obtain ⟨w0, hw0⟩ : ∃ w0, w0 = w.alloc (.cells #[.int .i64 u.k, .int .i64 u.n, .string u.s, .int .i64 u.a, .slice ta n cp] 26) := ⟨_, rfl⟩
  have HB0 : Hid (Below w.heap.size w w0) := by rw [hw0]; exact (Below.refl _ _).alloc (Nat.le_refl _) _
  have G0 : Hid (w0.heap[w.heap.size]? = some (.cells #[.int .i64 u.k, .int .i64 u.n, .string u.s, .int .i64 u.a, .slice ta n cp] 26 (0, 0))) := by rw [hw0]; exact heap_alloc_new _ _
  have hsz := szGraph_any u ta n cp TB TO A L C RB RO K X 1048576 w0 (by omega) (by omega) hu hn HS (HT.out.below HB0.out)
  go_enter Tryd.func3, Tryd.ntmps3
  go_wp2_with fail
  rw [← hw0]
  refine hsz.mono ?_
  clear hsz hw0
  rintro e w1 ⟨⟨q, rfl, hq1, hq2⟩, hb1⟩
  have G1 : Hid (w1.heap[w.heap.size]? = some (.cells #[.int .i64 u.k, .int .i64 u.n, .string u.s, .int .i64 u.a, .slice ta n cp] 26 (0, 0))) := blk_below G0.out hb1
  have HB1 : Hid (Below w.heap.size w w1) := grw HB0.out hb1
  clear hb1 G0 HB0
  by_cases hq : q < 0
  · clear hq2
    go_wp2
    go_ret
    exact ⟨rfl, HB1.out⟩
  obtain ⟨_, hn1, hsm⟩ := hq2 (by omega)
  have HSm : Hid (Small 1048576 n L K X) := hsm
  clear hq2 hsm HS
  obtain ⟨g0, g1, g2, g3, g4, _⟩ := cells5 G1.out
  have hto := toGraph_any u ta n cp TB TO A L C RB RO K X w1 hn1 HSm (HT.out.below HB1.out)
  go_wp2_with fail
  refine hto.mono ?_
  clear hto
  rintro e w2 ⟨⟨B2, rfl, _, w02, H2, _, hC2, hR2⟩, hb2⟩
  have HT2 : Hid (TabsAt w2 (some ⟨B2, 0, none⟩) n B2 0 (fun r => some ⟨H2 r, 0, none⟩) L L H2 (fun _ => 0) K X) := hC2.tabs hR2
  have G2 : Hid (w2.heap[w.heap.size]? = some (.cells #[.int .i64 u.k, .int .i64 u.n, .string u.s, .int .i64 u.a, .slice ta n cp] 26 (0, 0))) := blk_below G1.out hb2
  have HB2 : Hid (Below w.heap.size w w2) := grw HB1.out hb2
  clear hb2 G1 HB1 hC2 hR2 g0 g1 g2 g3 g4
  have hsp := specFreeze_any u (some ⟨B2, 0, none⟩) n n B2 0 _ L _ _ _ K X w2 hn1 HSm HT2 HRg
  go_wp2_with fail
  refine hsp.mono ?_
  clear hsp
  rintro e w3 ⟨hbs, hb3⟩
  obtain ⟨bs, rfl, hbs⟩ := FrzIs.str hbs
  have G3 : Hid (w3.heap[w.heap.size]? = some (.cells #[.int .i64 u.k, .int .i64 u.n, .string u.s, .int .i64 u.a, .slice ta n cp] 26 (0, 0))) := blk_below G2.out hb3
  have HB3 : Hid (Below w.heap.size w w3) := grw HB2.out hb3
  have HBS : Hid (FrzIs (.returned (.string bs)) n u L K X) := hbs
  clear hb3 G2 HB2 HT2 hbs
  obtain ⟨g0, g1, g2, g3, g4, _⟩ := cells5 G3.out
  have hto := toGraph_any u ta n cp TB TO A L C RB RO K X w3 hn1 HSm (HT.out.below HB3.out)
  go_wp2_with fail
  refine hto.mono ?_
  clear hto
  rintro e w4 ⟨⟨B4, rfl, _, w04, H4, _, hC4, hR4⟩, hb4⟩
  obtain ⟨w5, hw5⟩ : ∃ w5, w5 = w4.alloc (.cells #[.int .i64 u.k, .int .i64 u.n, .string u.s, .int .i64 u.a, .slice (some ⟨B4, 0, none⟩) n n] 32) := ⟨_, rfl⟩
  have HB45 : Hid (Below w4.heap.size w4 w5) := by rw [hw5]; exact (Below.refl _ _).alloc (Nat.le_refl _) _
  have X5 : Hid (w5.heap[w4.heap.size]? = some (.cells #[.int .i64 u.k, .int .i64 u.n, .string u.s, .int .i64 u.a, .slice (some ⟨B4, 0, none⟩) n n] 32 (0, 0))) := by rw [hw5]; exact heap_alloc_new _ _
  have HT5 : Hid (TabsAt w5 (some ⟨B4, 0, none⟩) n B4 0 (fun r => some ⟨H4 r, 0, none⟩) L L H4 (fun _ => 0) K X) := (hC4.tabs hR4).below HB45.out
  have XG5 : Hid (w5.heap[w.heap.size]? = some (.cells #[.int .i64 u.k, .int .i64 u.n, .string u.s, .int .i64 u.a, .slice ta n cp] 26 (0, 0))) := blk_below (blk_below G3.out hb4) HB45.out
  have HB5 : Hid (Below w.heap.size w w5) := grw (grw HB3.out hb4) HB45.out
  have him := implFreeze_any u (some ⟨B4, 0, none⟩) n n B4 0 _ L _ _ _ K X w5 hn1 HSm HT5 (HTab.out.below HB5.out) HRg
  obtain ⟨xb, hxb⟩ : ∃ xb, w4.heap.size = xb := ⟨_, rfl⟩
  rw [hxb] at X5
  clear hb4 G3 HB3 hC4 hR4 g0 g1 g2 g3 g4 HB45
  go_wp2_with fail
  rw [← hw5]
  refine him.mono ?_
  clear him hw5 hxb
  rintro e w6 ⟨hbi, hb6⟩
  obtain ⟨bi, rfl, hbi⟩ := FrzIs.str hbi
  obtain rfl : bi = bs := FrzIs.same hbi HBS.out
  have G6 : Hid (w6.heap[w.heap.size]? = some (.cells #[.int .i64 u.k, .int .i64 u.n, .string u.s, .int .i64 u.a, .slice ta n cp] 26 (0, 0))) := blk_below XG5.out hb6
  have X6 : Hid (w6.heap[xb]? = some (.cells #[.int .i64 u.k, .int .i64 u.n, .string u.s, .int .i64 u.a, .slice (some ⟨B4, 0, none⟩) n n] 32 (0, 0))) := blk_below X5.out hb6
  have HT6 : Hid (TabsAt w6 (some ⟨B4, 0, none⟩) n B4 0 (fun r => some ⟨H4 r, 0, none⟩) L L H4 (fun _ => 0) K X) := HT5.out.below hb6
  have HB6 : Hid (Below w.heap.size w w6) := grw HB5.out hb6
  clear hb6 XG5 X5 HT5 HB5 hbi HBS
  obtain ⟨g0, g1, g2, g3, g4, _⟩ := cells5 G6.out
  obtain ⟨x0, x1, x2, x3, x4, _⟩ := cells5 X6.out
  have hto := toGraph_any u ta n cp TB TO A L C RB RO K X w6.drew hn1 HSm (HT.out.below HB6.out.drew)
  go_wp2
  go_region_held3 (fun w' => (w'.cell? ⟨xb, 0, none⟩ = some (.int .i64 u.k) ∧ w'.cell? ⟨xb, 1, none⟩ = some (.int .i64 u.n) ∧ w'.cell? ⟨xb, 2, none⟩ = some (.string u.s) ∧ w'.cell? ⟨xb, 3, none⟩ = some (.int .i64 u.a) ∧ w'.cell? ⟨xb, 4, none⟩ = some (.slice (some ⟨B4, 0, none⟩) n n)) ∧ (w'.cell? ⟨w.heap.size, 0, none⟩ = some (.int .i64 u.k) ∧ w'.cell? ⟨w.heap.size, 1, none⟩ = some (.int .i64 u.n) ∧ w'.cell? ⟨w.heap.size, 2, none⟩ = some (.string u.s) ∧ w'.cell? ⟨w.heap.size, 3, none⟩ = some (.int .i64 u.a) ∧ w'.cell? ⟨w.heap.size, 4, none⟩ = some (.slice ta n cp)) ∧ Hid (Below w.heap.size w w'))
    (first | exact keep55 ‹_ ∧ _› hb8 | exact keep55 ‹_ ∧ _› hb7 | exact ⟨⟨x0, x1, x2, x3, x4⟩, ⟨g0, g1, g2, g3, g4⟩, HB6.out.drew⟩)
    (first
      | (go_at_call 6; refine hto.mono ?_; rintro e w7 ⟨⟨B7, rfl, _, w07, H7, _, hC7, hR7⟩, hb7⟩)
      | (go_at_call 8; refine (eqGraph_same u (some ⟨B4, 0, none⟩) (some ⟨B7, 0, none⟩) n n n B4 0 B7 0 _ _ L _ _ _ _ _ _ K X _ hn1 HSm ((HT6.out.below ((Below.refl _ _).drew)).below hb7) (hC7.tabs hR7)).mono ?_; rintro e w8 ⟨rfl, hb8⟩))
  rename_i hS
  have HB8 := hS.2.2
  clear hS hb7 hb8 hC7 hR7 g0 g1 g2 g3 g4 x0 x1 x2 x3 x4 G6 X6 HT6 HB6 hto
  go_wp2
  go_ret
  exact ⟨rfl, HB8.out⟩

end Go.Proofs.YtgflalfiopnmnabDoor

namespace Go.Proofs.YtgflalfiopnmnabDoor
open Go.RowKit Vl
open Go.ChangeShapes Go.WideShapes Go.ChangeAt Go.Joins

theorem ownF : ownKnob Tryd.prog.godebug = none := by kernel_rfl
theorem gPow : Tryd.prog.globalNamed "internal/strconv.uint64pow10" = some 0 := by kernel_rfl
theorem gPowType : (Tryd.prog.globals[0]?).map (·.type) = some 140 := by kernel_rfl
theorem cellsU64 : Tryd.prog.cellsOf 131 = 1 := by kernel_rfl
theorem cellsPow : Tryd.prog.cellsOf 140 = 20 := by kernel_rfl
theorem powData : (Rows.laid_internal_strconv_uint64pow10 : DataW Unit) = Lib.tabData .u64 Lib.pow10Tab := by rfl

/-- The powers stand in their table, now and later. -/
theorem tab_of {W : World} (h : laidMetH Tryd.prog Rows.fnExactFreezeRow.laid W) : Tab W := by
  rw [MakeChecks.laidMetH_plain _ _ _ (by kernel_rfl)] at h
  have h3 : laidMet Tryd.prog (("internal/strconv.uint64pow10", Lib.tabData .u64 Lib.pow10Tab) :: []) W := by
    have h2 : laidMet Tryd.prog [("internal/strconv.uint64pow10", Rows.laid_internal_strconv_uint64pow10)] W := (laidMet.tail (laidMet.tail h))
    rw [powData] at h2
    exact h2
  have hT : Lib.TabIs Tryd.prog W "internal/strconv.uint64pow10" .u64 Lib.pow10Tab := Lib.tabIs_of_head gPow gPowType Tryd.underlying140 Tryd.underlying131 cellsU64 cellsPow h3
  intro W' hb
  unfold Lib.TabIs at hT ⊢
  have hc := World.var?_cell gPow hT 0
  have hlt : 0 < W.heap.size := by
    have h0 : W.cell? ⟨0, 0, none⟩ = some (.int .u64 1) := by rw [hc]; rfl
    simpa using World.block_lt_of_cell? _ _ h0
  exact var?_below hb gPow hlt hT

/-- One start that fits: the tables as their initialisers lay them. -/
def numsOf : DataW Unit → List Int
  | .agg ps => ps.filterMap fun | .lit (.int _ z) => some z | _ => none
  | _ => []
def putTab (k : IntKind) (zs : List Int) : Obj → Obj
  | .cells _ t frozen => .cells (zs.map fun z => Value.int k z).toArray t frozen
  | o => o
def laidTabs (W : World) : World := { W with heap := ((W.heap.modify 1 (putTab .u8 (numsOf Rows.laid_math_bits_deBruijn32tab))).modify 2 (putTab .u8 (numsOf Rows.laid_math_bits_deBruijn64tab))).modify 0 (putTab .u64 (numsOf Rows.laid_internal_strconv_uint64pow10)) }
theorem laid_tabs (os : Os) (args : Array Value) : laidMet Tryd.prog Rows.fnExactFreezeRow.laid ((laidTabs (World.holding Tryd.prog os ⟨#[], #[], []⟩)).forCall (fun _ _ => 0) ⟨#[], args, []⟩).memory :=
  laidMet_of_run3 8 (by kernel_rfl) (by kernel_rfl) (by kernel_rfl)

set_option maxRecDepth 100000 in
theorem freezeContract (H : Type) (enc : TypeId × Value → H) (W : World) (base : Nat) (args : Array Value) (ds gs : List (DataW H)) (before : List MemPlace)
    (hval : ∀ (j : Nat) t v, Tryd.f3.params[j]? = some t → args[j]? = some v → Value.okWide Tryd.prog W .any base t v)
    (hW : DataW.Whole enc Tryd.prog Tryd.f3.params.toList Rows.fnExactFreezeSpec.vars false W args.toList ds gs before) (hL : laidMetH Tryd.prog Rows.fnExactFreezeRow.laid W) :
    Calls Tryd.prog 3 args W fun e W' => ∃ v, e = .returned v ∧ Rows.fnExactFreezeSpec.post enc Tryd.prog Tryd.f3 false true false false W args v W' := by
  have hW' := hW
  obtain ⟨p, q, hA0, hV, rfl, hfz, hnd⟩ := hW
  have hA : DataW.TrodAll enc Tryd.prog W 0 (fun _ => true) true Tryd.f3.params.toList args.toList ds p := hA0
  rw [Tryd.params3] at hA hval
  obtain ⟨v0, vs0, d0, ds0, p0, q0, hargs, rfl, rfl, h0, r0⟩ := trodAll_cons hA
  obtain ⟨rfl, rfl, rfl⟩ := trodAll_nil r0
  obtain rfl : args = #[v0] := by cases args; simp_all
  obtain ⟨rfl, rfl⟩ := trodVars_none hV
  have k0 := h0
  have lt0 : ∀ x ∈ p0, x.block < W.heap.size := by obtain ⟨m, hm⟩ := k0; exact DataW.trod_lt m _ _ _ hm
  obtain ⟨u, ta, n, cp, TB, TO, A, L, C, RB, RO, K, X, rfl, hu, hn, hT, hS⟩ := opensR_graph (hval 0 26 v0 rfl rfl) h0
  clear hA0
  have hS1 : Small 9223372036854775807 n L K X := fun r hr => ⟨(hS r hr).1, fun j hj => ⟨((hS r hr).2 j hj).1.1, ((hS r hr).2 j hj).2.1⟩⟩
  have hRg : Rgs n u L K X := ⟨hu.2, fun r hr c hc => ⟨((hS r hr).2 c hc).1.2, ((hS r hr).2 c hc).2.2⟩⟩
  refine (freezeLaw u ta n cp TB TO A L C RB RO K X W hu.1 hn hS1 hT (tab_of hL) hRg).mono fun e W' ⟨he, bel⟩ => ?_
  subst he
  exact ⟨_, rfl, _, _, _, [], _, [], hW', trodAll_mk1 (shut_bool Tryd.underlying4 _), (trodAll_cons_mk (Below.trod laidOutG (by kernel_rfl) (of_decide_eq_true (by kernel_rfl)) k0 bel lt0) trodAll_mk0), rfl, bel.frame _, fun h => by cases h⟩

set_option maxRecDepth 100000 in
theorem freezeLifted (os : Os) (started : os.Started) (H : Type) (enc : TypeId × Value → H) (F : Stop.Interp) :
    ReturnsInHanded {} Tryd.checked os 3 .any ((OpenSpec.ofChange Rows.fnExactFreezeSpec).preRow enc Tryd.prog Tryd.f3 Rows.fnExactFreezeRow.domain false Rows.fnExactFreezeRow.laid) (((OpenSpec.ofChange Rows.fnExactFreezeSpec).at F).post enc Tryd.prog Tryd.f3 false true false false) := by
  refine returnsInHanded_of_row (C := Tryd.checked) (s := OpenSpec.ofChange Rows.fnExactFreezeSpec) ownF started (by kernel_rfl) Tryd.func3
    (witness_row_at (enc := enc) (C := Tryd.checked) false (laidTabs (World.holding Tryd.prog os ⟨#[], #[], []⟩)) #[.agg #[.int .i64 0, .int .i64 0, .string ⟨#[]⟩, .int .i64 0, .slice none 0 0]] rfl (by kernel_rfl) (by kernel_rfl) (by kernel_rfl)
      (OpenSpec.preRow_of_B rfl 8 (by kernel_rfl) (by kernel_rfl) (laid_tabs os _))) ?_
  intro W base args ds gs before hval hW _ _ _ hL _ _
  exact freezeContract H enc W base args ds gs before hval hW hL

theorem freezeSaid : Rows.FnExactFreezeSaid :=
  OpenClaim.holds_of_cond 3 Tryd.f3 rfl rfl rfl rfl rfl rfl rfl ⟨rfl, rfl, rfl, rfl, rfl⟩ rfl rfl rfl rfl rfl (by kernel_rfl) Tryd.func3 (by kernel_rfl)
    (of_decide_eq_true (by kernel_rfl)) (by unfold Func.isWrapper; first | (rw [if_pos (by decide +kernel)]; kernel_rfl) | (rw [if_neg (by decide +kernel)]; exact ⟨rfl, rfl⟩))
    (fun os started H enc _ F => by rw [OpenClaim.pre_eq_preRow]; exact freezeLifted os started H enc F)

/-- No parameter wants a stand-in; the program's own looks: what the card asks. -/
theorem freezePlain (f : FuncId) (fn : Func) (hf : Tryd.pinned.checked.prog.funcNamed "loop.example/cloth/laws.FnExactFreeze" = some f) (hfn : Tryd.pinned.checked.prog.funcs[f]? = some fn) :
    true = Tryd.pinned.checked.prog.looks [] ∧ ∀ (j : Nat) t, fn.params[j]? = some t → Tryd.pinned.checked.prog.wantsStandIn t = false := by
  obtain rfl : f = 3 := Option.some.inj ((show Tryd.prog.funcNamed "loop.example/cloth/laws.FnExactFreeze" = some 3 by kernel_rfl).symm.trans hf) |>.symm
  obtain rfl : fn = Tryd.f3 := (Option.some.inj (Tryd.func3.symm.trans hfn)).symm
  refine ⟨by kernel_rfl, fun j t ht => ?_⟩
  rw [Tryd.params3] at ht
  obtain rfl : t = 26 := by simpa using Array.mem_of_getElem? ht
  exact (show Tryd.prog.wantsStandIn 26 = false by kernel_rfl)

theorem freeze_card : Rows.FnExactFreezeCardSaid :=
  Claim7.holds_tied_plain_at .later [] _ _ _ _ freezeSaid (fun _ h => by cases h) (by kernel_rfl) (fun _ h => by cases h) fnExactFreeze_row_tie rfl ⟨rfl, rfl⟩ (by kernel_rfl) rfl freezePlain (by kernel_rfl)
#print axioms freeze_card
end Go.Proofs.YtgflalfiopnmnabDoor
