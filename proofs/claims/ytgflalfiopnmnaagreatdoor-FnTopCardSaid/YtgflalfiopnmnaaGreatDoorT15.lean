import Derived.Test.YtgflalfiopnmnaaGreatDoorT0
import Derived.Test.YtgflalfiopnmnaaGreatDoorT14
namespace Go.Proofs.YtgflalfiopnmnaaGreatDoor
open Go.RowKit Vl

def Labs (w : World) (LM n : Nat) (T : Nat → Nat) (t : Ft) : Prop := ∃ ls : List Nat, Fit n ls ∧ (∀ i, i ∈ ls ↔ 0 < t.lab i) ∧ ls.length = t.N ∧ MapG ptr w LM (tabL T ls (fun j => .int .i64 (t.lab j : Nat)))

structure WrB (w0 : World) (WB QM LM base : Nat) : Prop where
  wb : w0.heap.size ≤ WB
  lm : w0.heap.size ≤ LM
  wbb : WB < base
  lmb : LM < base
  qmb : QM < base
  n1 : WB ≠ LM
  n2 : QM ≠ WB
  n3 : QM ≠ LM

structure WtW (w0 w : World) (WB QM LM base n : Nat) (T : Nat → Nat) (S0 : List Nat) (Q : Nat → Nat) (t : Ft) (buf : Value) : Prop where
  st : WrS w WB QM LM base buf t.out
  lead : MapG ptr w QM (tabL T S0 (fun j => .int .i64 (Q j : Nat)))
  labs : Labs w LM n T t
  bel : Below w0.heap.size w0 w
def WSt (w0 w : World) (WB QM LM base n : Nat) (T : Nat → Nat) (S0 : List Nat) (Q : Nat → Nat) (t : Ft) (buf : Value) : Prop :=
  WtW w0 w WB QM LM base n T S0 Q t buf ∨ ∃ o, WrS w WB QM LM base buf o ∧ Below w0.heap.size w0 w ∧ 20000 < o.length ∧ o.length ≤ t.out.length

theorem Labs.same {w w' : World} {LM n : Nat} {T : Nat → Nat} {t : Ft} (h : Labs w LM n T t) (e : w'.heap[LM]? = w.heap[LM]?) : Labs w' LM n T t := by
  obtain ⟨ls, a, b, c, d⟩ := h
  exact ⟨ls, a, b, c, d.same e⟩
theorem Labs.lt {w : World} {LM n : Nat} {T : Nat → Nat} {t : Ft} (h : Labs w LM n T t) : LM < w.heap.size := by
  obtain ⟨ls, a, b, c, d⟩ := h
  exact d.lt
theorem WtW.below {w0 w w' : World} {WB QM LM base n : Nat} {T : Nat → Nat} {S0 : List Nat} {Q : Nat → Nat} {t : Ft} {buf : Value} (h : WtW w0 w WB QM LM base n T S0 Q t buf) (hb : Below w.heap.size w w') : WtW w0 w' WB QM LM base n T S0 Q t buf :=
  ⟨h.st.below hb, h.lead.same (hb.block _ h.lead.lt), h.labs.same (hb.block _ h.labs.lt), h.bel.trans (hb.mono h.bel.size)⟩
theorem frB {w0 w w' : World} {WB QM LM base : Nat} {buf buf' : Value} {bs : List UInt8} (hB : WrB w0 WB QM LM base) (hs : WrS w WB QM LM base buf bs) (hb : Below w0.heap.size w0 w) (hf : FrV WB WB buf buf' w w') : Below w0.heap.size w0 w' := by
  refine hb.trans (hf.only.toBelow (fun k hk => ?_) hb.size)
  obtain ⟨_, _, _, h⟩ := owns_form hs.own
  have := hB.wb
  have := hB.wbb
  rcases hk with rfl | rfl | e
  · exact hB.wb
  · exact hB.wb
  · have := (h _ e).1
    omega
theorem WtW.say {w0 w w' : World} {WB QM LM base n : Nat} {T : Nat → Nat} {S0 : List Nat} {Q : Nat → Nat} {t : Ft} {buf buf' : Value} {l : List UInt8} (h : WtW w0 w WB QM LM base n T S0 Q t buf) (hB : WrB w0 WB QM LM base) (hs : WrS w' WB QM LM base buf' (t.out ++ l)) (hf : FrV WB WB buf buf' w w') : WtW w0 w' WB QM LM base n T S0 Q (t.say l) buf' := by
  obtain ⟨_, _, _, hk⟩ := owns_form h.st.own
  have o1 : buf.ownBlock ≠ some QM := fun e => by have := (hk _ e).1; have := hB.qmb; omega
  have o2 : buf.ownBlock ≠ some LM := fun e => by have := (hk _ e).1; have := hB.lmb; omega
  refine ⟨hs, h.lead.same (hf.only.block _ h.lead.lt (fun x => ?_)), ?_, frB hB h.st h.bel hf⟩
  · rcases x with x | x | x
    · exact hB.n2 x
    · exact hB.n2 x
    · exact o1 x
  · have : Labs w' LM n T t := h.labs.same (hf.only.block _ h.labs.lt (fun x => by
      rcases x with x | x | x
      · exact hB.n1 x.symm
      · exact hB.n1 x.symm
      · exact o2 x))
    exact this
theorem FrV.wide {WB LM : Nat} {o1 o2 : Value} {a b : World} (h : FrV WB WB o1 o2 a b) : FrV WB LM o1 o2 a b :=
  ⟨h.only.mono (fun k _ x => by rcases x with x | x | x; exact Or.inl x; exact Or.inl x; exact Or.inr (Or.inr x)), h.nxt⟩
theorem WSt.st {w0 w : World} {WB QM LM base n : Nat} {T : Nat → Nat} {S0 : List Nat} {Q : Nat → Nat} {t : Ft} {buf : Value} (h : WSt w0 w WB QM LM base n T S0 Q t buf) : ∃ o, WrS w WB QM LM base buf o ∧ Below w0.heap.size w0 w ∧ o.length ≤ t.out.length ∧ (20000 < o.length ∨ WtW w0 w WB QM LM base n T S0 Q t buf ∧ o = t.out) := by
  rcases h with h | ⟨o, a, b, c, d⟩
  · exact ⟨t.out, h.st, h.bel, Nat.le_refl _, Or.inr ⟨h, rfl⟩⟩
  · exact ⟨o, a, b, d, Or.inl c⟩
theorem WSt.below {w0 w w' : World} {WB QM LM base n : Nat} {T : Nat → Nat} {S0 : List Nat} {Q : Nat → Nat} {t : Ft} {buf : Value} (h : WSt w0 w WB QM LM base n T S0 Q t buf) (hb : Below w.heap.size w w') : WSt w0 w' WB QM LM base n T S0 Q t buf := by
  rcases h with h | ⟨o, a, b, c, d⟩
  · exact Or.inl (h.below hb)
  · exact Or.inr ⟨o, a.below hb, b.trans (hb.mono b.size), c, d⟩
theorem WSt.say {w0 w w' : World} {WB QM LM base n : Nat} {T : Nat → Nat} {S0 : List Nat} {Q : Nat → Nat} {t : Ft} {buf buf' : Value} {o l : List UInt8} (hB : WrB w0 WB QM LM base) (ho : WrS w WB QM LM base buf o) (hb : Below w0.heap.size w0 w) (hl : o.length ≤ t.out.length) (hc : 20000 < o.length ∨ WtW w0 w WB QM LM base n T S0 Q t buf ∧ o = t.out)
    (hs : WrS w' WB QM LM base buf' (o ++ l)) (hf : FrV WB WB buf buf' w w') : WSt w0 w' WB QM LM base n T S0 Q (t.say l) buf' := by
  rcases hc with h | ⟨h, rfl⟩
  · refine Or.inr ⟨o ++ l, hs, frB hB ho hb hf, by rw [List.length_append]; omega, ?_⟩
    rw [say_len, List.length_append]
    omega
  · exact Or.inl (h.say hB hs hf)

theorem say_say (t : Ft) (a b : List UInt8) : (t.say a).say b = t.say (a ++ b) := by simp [Ft.say]
structure Plain (n : Nat) (L : Nat → Nat) (K X : Nat → Nat → V) : Prop where
  key : ∀ r, r < n → ∀ c, c < L r → shortV (K r c) ∧ ((K r c).k = 0 ∨ (K r c).k = 1 ∨ (K r c).k = 2 ∨ (K r c).k = 3)
  val : ∀ r, r < n → ∀ c, c < L r → shortV (X r c)
theorem kindsF {n : Nat} {v : V} (hv : isV n v = true) (h4 : v.k ≠ 4) : v.k = 0 ∨ v.k = 1 ∨ v.k = 2 ∨ v.k = 3 := by
  obtain ⟨k, m, s, a⟩ := v
  by_cases k0 : k = 0
  · exact Or.inl k0
  by_cases k1 : k = 1
  · exact Or.inr (Or.inl k1)
  by_cases k2 : k = 2
  · exact Or.inr (Or.inr (Or.inl k2))
  by_cases k3 : k = 3
  · exact Or.inr (Or.inr (Or.inr k3))
  · have k4 : ¬ k = 4 := h4
    simp [isV, k0, k1, k2, k3, k4] at hv

structure Env (w0 : World) (n : Nat) (T M : Nat → Nat) (at_ : Nat → Int) (L : Nat → Nat) (K X : Nat → Nat → V) (WB QM LM base : Nat) (S0 : List Nat) (Q : Nat → Nat) : Prop where
  len : n ≤ 200
  lens : ∀ r, r < n → L r ≤ 100
  good : Good n L X
  tbs : Tbs w0 n T M at_ L K X
  wrb : WrB w0 WB QM LM base
  plain : Plain n L K X
  tab : ∀ w', Below w0.heap.size w0 w' → Lib.TabIs Tryz.prog w' "internal/strconv.uint64pow10" .u64 Lib.pow10Tab
  fit : Fit n S0
  led : Led S0 Q
  q : ∀ i, Q i ≤ 100000

def WtV (w0 : World) (n : Nat) (T : Nat → Nat) (L : Nat → Nat) (K X : Nat → Nat → V) (WB QM LM base : Nat) (S0 : List Nat) (Q : Nat → Nat) (f : Nat) : Prop := ∀ (S : List Nat) (Q0 : Nat → Nat) (t : Ft) (v : V) (w : World) (buf : Value), Hid (Wat n Q L X f S Q0 t v) → shortV v → (frz Q L K X f t v).out.length ≤ 100000000 → base ≤ w.heap.size → Hid (WtW w0 w WB QM LM base n T S0 Q t buf) →
    Calls Tryz.prog 25 #[.agg #[fnWT WB, fnWP WB], ifv T v] w fun e w' => e = .returned (.tuple #[]) ∧ ∃ buf', WSt w0 w' WB QM LM base n T S0 Q (frz Q L K X f t v) buf' ∧ FrV WB LM buf buf' w w'

theorem Tab.env {w0 w : World} {n : Nat} {T M : Nat → Nat} {at_ : Nat → Int} {L : Nat → Nat} {K X : Nat → Nat → V} {WB QM LM base : Nat} {S0 : List Nat} {Q : Nat → Nat} (h : Env w0 n T M at_ L K X WB QM LM base S0 Q) (hb : Below w0.heap.size w0 w) : Tab w := Tab.base h.tab hb.size hb

set_option maxHeartbeats 4000000 in
set_option maxRecDepth 100000 in
theorem wPairs_any (w0 : World) (n : Nat) (T M : Nat → Nat) (at_ : Nat → Int) (L : Nat → Nat) (K X : Nat → Nat → V) (WB QM LM base : Nat) (S0 : List Nat) (Q : Nat → Nat) (HE : Hid (Env w0 n T M at_ L K X WB QM LM base S0 Q)) (f : Nat) (ih : WtV w0 n T L K X WB QM LM base S0 Q f)
    (S : List Nat) (Q0 : Nat → Nat) (t : Ft) (r : Nat) (hrn : r < n) (w : World) (buf : Value) (HM0 : Hid (Wmid n Q L X f S Q0 t r 0)) (hlen : (wrs Q L K X f t r (L r)).out.length ≤ 100000000) (hbw : base ≤ w.heap.size) (HW : Hid (WtW w0 w WB QM LM base n T S0 Q t buf)) :
    Calls Tryz.prog 93 #[.pointer (some ⟨WB, 0, none⟩), ptr (T r)] w fun e w' => e = .returned (.tuple #[]) ∧ ∃ buf', WSt w0 w' WB QM LM base n T S0 Q (wrs Q L K X f t r (L r)) buf' ∧ FrV WB LM buf buf' w w' := by
  have HIH : Hid (WtV w0 n T L K X WB QM LM base S0 Q f) := ih
  have HLEN : Hid ((wrs Q L K X f t r (L r)).out.length ≤ 100000000) := hlen
  have hWB : WB < base := HE.out.wrb.wbb
  have hLM : LM < base := HE.out.wrb.lmb
  have HTB : Hid (Tbs w0 n T M at_ L K X) := HE.out.tbs
  have hLr := HE.out.lens r hrn
  obtain ⟨ord, hTb, hOr⟩ := HTB.out.tab r hrn
  obtain ⟨l, hM, hfind⟩ := HTB.out.map r hrn
  obtain ⟨hform, hVals⟩ := owns_keys hOr
  have HTb : Hid (TabB w0 (T r) (M r) (at_ r) ord) := hTb
  have HM : Hid (MapIs w0 (M r) l) := hM
  have HFd : Hid (∀ c, c < L r → findV (K r c) l = some (ifv T (X r c))) := hfind
  obtain ⟨ka, hka⟩ : ∃ ka, slA ord = ka := ⟨_, rfl⟩
  obtain ⟨kb, hkb⟩ : ∃ kb, slB ord = kb := ⟨_, rfl⟩
  obtain ⟨kc, hkc⟩ : ∃ kc, slC ord = kc := ⟨_, rfl⟩
  rw [hka, hkc] at hform
  rw [hka, hkb] at hVals
  have HV : Hid (ValsAt w0 ka (L r) kb 0 (K r)) := hVals
  rw [hform] at HTb
  have t2 : w.cell? ⟨T r, 2, none⟩ = some (.slice ka (L r) kc) := (HW.out.bel.cell (p := ⟨T r, 2, none⟩) (HTB.out.lt hrn)).trans HTb.out.cells.2.2.1
  clear hTb hM hfind hVals hOr hform hka hkb hkc ih hlen
  go_enter Tryz.func93, Tryz.ntmps93
  go_wp2
  clear t2
  go_loopw [11] (fun ii wr => ∃ (c : Nat) (b' : Value), c ≤ L r ∧ ii = .int .i64 c ∧ Hid (Wmid n Q L X f S Q0 (wrs Q L K X f t r c) r c) ∧ Hid (WSt w0 wr WB QM LM base n T S0 Q (wrs Q L K X f t r c) b') ∧ Hid (FrV WB LM buf b' w wr)) (fun ii _ => L r - (intOf ii).toNat)
  case atStart => exact ⟨0, buf, Nat.zero_le _, rfl, HM0, Or.inl HW.out, FrV.refl _ _ _ _⟩
  case round =>
    obtain ⟨c, b', hc, rfl, HMr, HWr, HFr⟩ := hrel
    have hsr : base ≤ wr.heap.size := Nat.le_trans hbw HFr.out.only.size
    obtain ⟨o, ho1, ho2, ho3, ho4⟩ := HWr.out.st
    have HO : Hid (WrS wr WB QM LM base b' o) := ho1
    have HOB : Hid (Below w0.heap.size w0 wr) := ho2
    have HOL : Hid (o.length ≤ (wrs Q L K X f t r c).out.length) := ho3
    have HOC : Hid (20000 < o.length ∨ WtW w0 wr WB QM LM base n T S0 Q (wrs Q L K X f t r c) b' ∧ o = (wrs Q L K X f t r c).out) := ho4
    clear ho1 ho2 ho3 ho4
    by_cases hlt : c < L r
    · obtain rfl := HV.out.top (by omega)
      obtain ⟨k0, k1, k2, k3⟩ := (HV.out.below HOB.out).cells hlt
      simp only [Nat.zero_add] at k0 k1 k2 k3
      obtain ⟨kk, HKK⟩ : ∃ kk, Hid (K r c = kk) := ⟨_, rfl⟩
      rw [HKK.out] at k0 k1 k2 k3
      obtain ⟨wk, hwk⟩ : ∃ wk, wk = wr.alloc (.cells #[.int .i64 kk.k, .int .i64 kk.n, .string kk.s, .int .i64 kk.a] 24) := ⟨_, rfl⟩
      have HBk : Hid (Below wr.heap.size wr wk) := by rw [hwk]; exact (Below.refl _ _).alloc (Nat.le_refl _) _
      have HKb : Hid (ValB wk wr.heap.size kk) := by rw [hwk]; exact heap_alloc_new _ _
      have hszk : wk.heap.size = wr.heap.size + 1 := by rw [hwk]; simp
      have HQ3 : Hid (b'.ownBlock ≠ some wr.heap.size) := show _ ≠ _ from fun e => by
        obtain ⟨_, _, _, h⟩ := owns_form HO.out.own
        have := (h _ e).2
        omega
      have htl := tooLong_any WB QM LM base b' o wk (HO.out.below HBk.out)
      have HMN : Hid ((wrs Q L K X f t r c).out.length ≤ (wrs Q L K X f t r (L r)).out.length) := wrs_mono f t r hc
      by_cases hlong : 20000 < o.length
      · rw [decide_eq_true hlong] at htl
        have HEnd : Hid (WSt w0 wk WB QM LM base n T S0 Q (wrs Q L K X f t r (L r)) b') := Or.inr ⟨o, HO.out.below HBk.out, HOB.out.trans (HBk.out.mono HOB.out.size), hlong, Nat.le_trans HOL.out HMN.out⟩
        have HFE : Hid (FrV WB LM buf b' w wk) := HFr.out.below HBk.out
        rw [hwk] at htl
        go_wp2_with (go_at_call 27; refine htl.mono ?_; rintro e w' ⟨rfl, rfl⟩)
        rw [← hwk]
        clear htl hwk k0 k1 k2 k3
        refine bodyPost_ret (results_none rfl _ _ _) rfl ?_
        exact ⟨rfl, b', HEnd.out, HFE.out⟩
      · rw [decide_eq_false hlong] at htl
        have HX0 : Hid (WtW w0 wr WB QM LM base n T S0 Q (wrs Q L K X f t r c) b' ∧ o = (wrs Q L K X f t r c).out) := HOC.out.resolve_left hlong
        have HWk : Hid (WtW w0 wk WB QM LM base n T S0 Q (wrs Q L K X f t r c) b') := HX0.out.1.below HBk.out
        have HWS : Hid (WrS wk WB QM LM base b' (wrs Q L K X f t r c).out) := HWk.out.st
        have hlc : (wrs Q L K X f t r c).out.length ≤ 20000 := by have := HX0.out.2; rw [← this]; omega
        have HWn : Hid (Wmid n Q L X f S Q0 (wrs Q L K X f t r (c + 1)) r (c + 1)) := by
          have := HMr.out.next (K := K) HE.out.good hrn hlt (keyT (K r) c)
          rw [wrs_succ]
          exact this
        have HSn : Hid (wrs Q L K X f t r (c + 1) = frz Q L K X f ((wrs Q L K X f t r c).say (keyT (K r) c)) (X r c)) := wrs_succ f t r c
        have HWat := HMr.out.at HE.out.good hrn hlt (keyT (K r) c)
        have HLn : Hid ((frz Q L K X f ((wrs Q L K X f t r c).say (keyT (K r) c)) (X r c)).out.length ≤ 100000000) := by
          have := wrs_mono (Q := Q) (L := L) (K := K) (X := X) f t r (c := c + 1) (d := L r) hlt
          have h2 := HLEN.out
          rw [HSn.out] at this
          exact Nat.le_trans this h2
        have HKE : Hid (keyT (K r) c = (if 0 < c then [44, 32] else []) ++ plT kk ++ [58, 32]) := by rw [← HKK.out]; exact rfl
        have HPk : Hid (shortV kk ∧ (kk.k = 0 ∨ kk.k = 1 ∨ kk.k = 2 ∨ kk.k = 3)) := by rw [← HKK.out]; exact HE.out.plain.key r hrn c hlt
        have hkl := plT_len HPk.out.1
        obtain ⟨tc, htc⟩ : ∃ tc, wrs Q L K X f t r c = tc := ⟨_, rfl⟩
        rw [htc] at HWk HWS hlc HSn HWat HLn
        have hfc := HFd.out c hlt
        obtain ⟨xt, xy, hxv⟩ := ifv_form T (X r c)
        rw [hxv, HKK.out] at hfc
        have hS : ∀ w' : World, Below w0.heap.size w0 w' → w'.cell? ⟨T r, 1, none⟩ = some (.map (some (M r))) ∧ (Instr.lookup 119 (.map (some (M r))) (.agg #[.int .i64 kk.k, .int .i64 kk.n, .string kk.s, .int .i64 kk.a]) false).run Tryz.prog w' = .ok (.iface xt xy) w' := fun w' hb => by
          refine ⟨(hb.cell (p := ⟨T r, 1, none⟩) (HTB.out.lt hrn)).trans HTb.out.cells.2.1, ?_⟩
          have := ((HM.out.same (hb.block _ HM.out.lt)).lookup kk).2
          rw [hfc] at this
          exact this
        have HS : Hid _ := hS
        have HX : Hid (ifv T (X r c) = .iface xt xy) := hxv
        have HFk : Hid (FrV WB LM buf b' w wk) := HFr.out.below HBk.out
        obtain ⟨qb, hqb⟩ : ∃ qb, wr.heap.size = qb := ⟨_, rfl⟩
        rw [hqb] at HKb HQ3 hszk hsr
        rw [hwk] at htl
        clear hS hfc hxv hlong HOC HX0 HWr HFr HBk HO HOB HOL htc
        by_cases hc0 : 0 < c
        · have hci : (0 : Int) < (c : Int) := by omega
          go_wp2_with (go_at_call 27; refine htl.mono ?_; rintro e w' ⟨rfl, rfl⟩)
          rw [← hwk]
          clear htl hwk k0 k1 k2 k3 hqb
          have hcall := putL WB QM LM base b' tc.out [⟨#[44, 32]⟩] wk wk (qb + 1) 1 hszk rfl (by omega) hWB (by omega) (by rw [show (catS [⟨#[44, 32]⟩]).length = 2 from rfl]; omega) HWS (Below.refl _ _)
          go_wp2_with (go_at_call 91; refine hcall.mono ?_)
          rintro e wa ⟨rfl, ba, hSa, hFa⟩
          rw [if_pos hc0] at HKE
          have HPre : Hid (catS [⟨#[44, 32]⟩] = [44, 32]) := rfl
          rw [HPre.out] at hSa
          clear hcall
          have HSa : Hid (WrS wa WB QM LM base ba (tc.out ++ [44, 32])) := hSa
          have HFa : Hid (FrV WB WB b' ba wk wa) := hFa
          have HWa : Hid (WtW w0 wa WB QM LM base n T S0 Q (tc.say [44, 32]) ba) := HWk.out.say HE.out.wrb hSa hFa
          have hza : qb + 1 ≤ wa.heap.size := by have := hFa.only.size; omega
          have HKa : Hid (ValB wa qb kk) := hFa.blk HKb.out (by omega) (by omega) HQ3.out
          obtain ⟨s0, s1, s2, s3, _⟩ := cells4 HKa.out
          clear hSa hFa
          have hpl : ([44, 32] : List UInt8).length ≤ 2 := by decide
          have hla : (tc.out ++ [44, 32]).length ≤ 1000000000 := by rw [List.length_append]; omega
          have hcp := wplain_any WB QM LM base ba (tc.out ++ [44, 32]) kk wa hWB (by omega) hla HPk.out.2 HPk.out.1 (Tab.env HE.out HWa.out.bel) HSa
          go_wp2_with (go_at_call 55; refine hcp.mono ?_)
          rintro e wb ⟨rfl, bb, hSb, hFb⟩
          have HSb : Hid (WrS wb WB QM LM base bb (tc.out ++ [44, 32] ++ plT kk)) := hSb
          have HFb : Hid (FrV WB WB b' bb wk wb) := HFa.out.trans hFb
          have HWb : Hid (WtW w0 wb WB QM LM base n T S0 Q ((tc.say [44, 32]).say (plT kk)) bb) := HWa.out.say HE.out.wrb hSb hFb
          have hzb : qb + 1 ≤ wb.heap.size := by have := hFb.only.size; omega
          clear hcp hSb hFb s0 s1 s2 s3
          have hlb : (tc.out ++ [44, 32] ++ plT kk).length + 2 ≤ 140737488355328 := by rw [List.length_append, List.length_append]; omega
          have hcall := putL WB QM LM base bb (tc.out ++ [44, 32] ++ plT kk) [⟨#[58, 32]⟩] wb wb wb.heap.size 1 rfl rfl (by omega) hWB (by omega) (by rw [show (catS [⟨#[58, 32]⟩]).length = 2 from rfl]; exact hlb) HSb (Below.refl _ _)
          go_wp2_with (go_at_call 91; refine hcall.mono ?_)
          rintro e wc ⟨rfl, bc, hSc, hFc⟩
          have HSC : Hid (catS [⟨#[58, 32]⟩] = [58, 32]) := rfl
          rw [HSC.out] at hSc
          have HFc : Hid (FrV WB WB b' bc wk wc) := HFb.out.trans hFc
          have hWc := HWb.out.say HE.out.wrb hSc hFc
          have HTE : Hid (((tc.say [44, 32]).say (plT kk)).say [58, 32] = tc.say (keyT (K r) c)) := by show _ = _; rw [say_say, say_say, HKE.out, List.append_assoc]
          rw [HTE.out] at hWc
          have HWc : Hid (WtW w0 wc WB QM LM base n T S0 Q (tc.say (keyT (K r) c)) bc) := hWc
          have hzc : qb + 1 ≤ wc.heap.size := by have := HFc.out.only.size; omega
          have HKc : Hid (ValB wc qb kk) := HFc.out.blk HKb.out (by omega) (by omega) HQ3.out
          clear hcall hSc hFc hWc hla hlb hpl
          go_wp2_with fail
          refine wp_region_held_drew (S := fun w' => Below w0.heap.size w0 w' ∧ ValB w' qb kk) (by kernel_rfl) ⟨HWc.out.bel.drew, HKc.out⟩ (fun hHeld => ?_)
          refine wpT (i := 0) (v := .pointer (some ⟨WB, 0, none⟩)) rfl (fun w hSw => ?_) hHeld ?_
          · first | rfl | go_simp
          simp only [Act.put, pz]
          refine wpT (i := 2) (v := .pointer (some ⟨T r, 0, none⟩)) rfl (fun w hSw => ?_) hHeld ?_
          · first | rfl | go_simp
          simp only [Act.put, pz]
          refine wpT (i := 3) (v := .pointer (some ⟨T r, 0, none⟩)) rfl (fun w hSw => ?_) hHeld ?_
          · first | rfl | go_simp
          simp only [Act.put, pz]
          refine wpT (i := 4) (v := .pointer (some ⟨T r, 1, none⟩)) rfl (fun w hSw => ?_) hHeld ?_
          · first | rfl | go_simp
          simp only [Act.put, pz]
          refine wpT (i := 5) (v := .map (some (M r))) rfl (fun w hSw => ?_) hHeld ?_
          · have s1 := (HS.out w hSw.1).1
            first | rfl | go_simp
          simp only [Act.put, pz]
          refine wpT (i := 6) (v := .agg #[.int .i64 kk.k, .int .i64 kk.n, .string kk.s, .int .i64 kk.a]) rfl (fun w hSw => ?_) hHeld ?_
          · obtain ⟨s0, s1, s2, s3, _⟩ := cells4 hSw.2
            first | rfl | go_simp
          simp only [Act.put, pz]
          refine wpT (i := 7) (v := .iface xt xy) rfl (fun w hSw => ?_) hHeld ?_
          · have s1 := (HS.out w hSw.1).2
            first | rfl | go_simp
          simp only [Act.put, pz]
          refine wpAnyH_ready (rs := [1]) (by kernel_rfl) (by simp) ?_
          refine AllReadyH.cons rfl (fun K' hK' => ?_) AllReadyH.nil
          have hcv := wVisitor_any WB wc.drew
          go_simp
          refine hcv.mono ?_
          clear hcv
          rintro e w4 ⟨rfl, hb4⟩
          have HB4 : Hid (Below wc.drew.heap.size wc.drew w4) := hb4
          have HW4 : Hid (WtW w0 w4 WB QM LM base n T S0 Q (tc.say (keyT (K r) c)) bc) := HWc.out.below ((Below.refl _ _).drew.trans hb4)
          have HF4 : Hid (FrV WB LM b' bc wk w4) := HFc.out.wide.below ((Below.refl _ _).drew.trans hb4)
          have HK4 : Hid (ValB w4 qb kk) := blkB (w := wc.drew) HKc.out hb4
          refine hK'.out _ _ ⟨HW4.out.bel, HK4.out⟩ (fun hHeld => ?_)
          clear hK' hb4
          refine wpAnyH_ready (rs := [8]) (by kernel_rfl) (by simp) ?_
          refine AllReadyH.cons rfl (fun K' hK' => ?_) AllReadyH.nil
          have hz4 : base ≤ w4.heap.size := by have := HF4.out.only.size; omega
          have hcall := HIH.out _ _ (tc.say (keyT (K r) c)) (X r c) w4 bc HWat (HE.out.plain.val r hrn c hlt) HLn.out hz4 HW4
          rw [HX.out] at hcall
          go_simp
          refine hcall.mono ?_
          clear hcall
          rintro e w5 ⟨rfl, b5, hW5, hF5⟩
          have HW5 : Hid _ := hW5
          have HF5 : Hid (FrV WB LM b' b5 wk w5) := HF4.out.trans hF5
          have HFn : Hid (FrV WB LM buf b5 w w5) := HFk.out.trans HF5.out
          have HK5 : Hid (ValB w5 qb kk) := HF5.out.blk HKb.out (by omega) (by omega) HQ3.out
          have HB5 : Hid (Below w0.heap.size w0 w5) := by obtain ⟨_, _, h, _⟩ := hW5.st; exact h
          refine hK'.out _ _ ⟨HB5.out, HK5.out⟩ (fun hHeld => ?_)
          clear hK' hHeld hW5 hF5
          refine wpAnyH_done (by kernel_rfl) ?_ _
          go_wp2
          go_roundw
          case rel => exact ⟨c + 1, b5, by omega, by go_num, HWn, by rw [HSn.out]; exact HW5, HFn⟩
          case measure => simp [intOf]; omega
        · have hci : ¬ ((0 : Int) < (c : Int)) := by omega
          go_wp2_with (go_at_call 27; refine htl.mono ?_; rintro e w' ⟨rfl, rfl⟩)
          rw [← hwk]
          clear htl hwk k0 k1 k2 k3 hqb
          obtain ⟨wa, hwa⟩ : ∃ wa, wa = wk := ⟨_, rfl⟩
          have hSa : WrS wa WB QM LM base b' (tc.out ++ []) := by rw [hwa, List.append_nil]; exact HWS.out
          have hFa : FrV WB WB b' b' wk wa := by rw [hwa]; exact FrV.refl _ _ _ _
          rw [if_neg hc0] at HKE
          rw [← hwa]
          clear hwa
          have HSa : Hid (WrS wa WB QM LM base b' (tc.out ++ [])) := hSa
          have HFa : Hid (FrV WB WB b' b' wk wa) := hFa
          have HWa : Hid (WtW w0 wa WB QM LM base n T S0 Q (tc.say []) b') := HWk.out.say HE.out.wrb hSa hFa
          have hza : qb + 1 ≤ wa.heap.size := by have := hFa.only.size; omega
          have HKa : Hid (ValB wa qb kk) := hFa.blk HKb.out (by omega) (by omega) HQ3.out
          obtain ⟨s0, s1, s2, s3, _⟩ := cells4 HKa.out
          clear hSa hFa
          have hpl : ([] : List UInt8).length ≤ 2 := by decide
          have hla : (tc.out ++ []).length ≤ 1000000000 := by rw [List.length_append]; omega
          have hcp := wplain_any WB QM LM base b' (tc.out ++ []) kk wa hWB (by omega) hla HPk.out.2 HPk.out.1 (Tab.env HE.out HWa.out.bel) HSa
          go_wp2_with (go_at_call 55; refine hcp.mono ?_)
          rintro e wb ⟨rfl, bb, hSb, hFb⟩
          have HSb : Hid (WrS wb WB QM LM base bb (tc.out ++ [] ++ plT kk)) := hSb
          have HFb : Hid (FrV WB WB b' bb wk wb) := HFa.out.trans hFb
          have HWb : Hid (WtW w0 wb WB QM LM base n T S0 Q ((tc.say []).say (plT kk)) bb) := HWa.out.say HE.out.wrb hSb hFb
          have hzb : qb + 1 ≤ wb.heap.size := by have := hFb.only.size; omega
          clear hcp hSb hFb s0 s1 s2 s3
          have hlb : (tc.out ++ [] ++ plT kk).length + 2 ≤ 140737488355328 := by rw [List.length_append, List.length_append]; omega
          have hcall := putL WB QM LM base bb (tc.out ++ [] ++ plT kk) [⟨#[58, 32]⟩] wb wb wb.heap.size 1 rfl rfl (by omega) hWB (by omega) (by rw [show (catS [⟨#[58, 32]⟩]).length = 2 from rfl]; exact hlb) HSb (Below.refl _ _)
          go_wp2_with (go_at_call 91; refine hcall.mono ?_)
          rintro e wc ⟨rfl, bc, hSc, hFc⟩
          have HSC : Hid (catS [⟨#[58, 32]⟩] = [58, 32]) := rfl
          rw [HSC.out] at hSc
          have HFc : Hid (FrV WB WB b' bc wk wc) := HFb.out.trans hFc
          have hWc := HWb.out.say HE.out.wrb hSc hFc
          have HTE : Hid (((tc.say []).say (plT kk)).say [58, 32] = tc.say (keyT (K r) c)) := by show _ = _; rw [say_say, say_say, HKE.out, List.append_assoc]
          rw [HTE.out] at hWc
          have HWc : Hid (WtW w0 wc WB QM LM base n T S0 Q (tc.say (keyT (K r) c)) bc) := hWc
          have hzc : qb + 1 ≤ wc.heap.size := by have := HFc.out.only.size; omega
          have HKc : Hid (ValB wc qb kk) := HFc.out.blk HKb.out (by omega) (by omega) HQ3.out
          clear hcall hSc hFc hWc hla hlb hpl
          go_wp2_with fail
          refine wp_region_held_drew (S := fun w' => Below w0.heap.size w0 w' ∧ ValB w' qb kk) (by kernel_rfl) ⟨HWc.out.bel.drew, HKc.out⟩ (fun hHeld => ?_)
          refine wpT (i := 0) (v := .pointer (some ⟨WB, 0, none⟩)) rfl (fun w hSw => ?_) hHeld ?_
          · first | rfl | go_simp
          simp only [Act.put, pz]
          refine wpT (i := 2) (v := .pointer (some ⟨T r, 0, none⟩)) rfl (fun w hSw => ?_) hHeld ?_
          · first | rfl | go_simp
          simp only [Act.put, pz]
          refine wpT (i := 3) (v := .pointer (some ⟨T r, 0, none⟩)) rfl (fun w hSw => ?_) hHeld ?_
          · first | rfl | go_simp
          simp only [Act.put, pz]
          refine wpT (i := 4) (v := .pointer (some ⟨T r, 1, none⟩)) rfl (fun w hSw => ?_) hHeld ?_
          · first | rfl | go_simp
          simp only [Act.put, pz]
          refine wpT (i := 5) (v := .map (some (M r))) rfl (fun w hSw => ?_) hHeld ?_
          · have s1 := (HS.out w hSw.1).1
            first | rfl | go_simp
          simp only [Act.put, pz]
          refine wpT (i := 6) (v := .agg #[.int .i64 kk.k, .int .i64 kk.n, .string kk.s, .int .i64 kk.a]) rfl (fun w hSw => ?_) hHeld ?_
          · obtain ⟨s0, s1, s2, s3, _⟩ := cells4 hSw.2
            first | rfl | go_simp
          simp only [Act.put, pz]
          refine wpT (i := 7) (v := .iface xt xy) rfl (fun w hSw => ?_) hHeld ?_
          · have s1 := (HS.out w hSw.1).2
            first | rfl | go_simp
          simp only [Act.put, pz]
          refine wpAnyH_ready (rs := [1]) (by kernel_rfl) (by simp) ?_
          refine AllReadyH.cons rfl (fun K' hK' => ?_) AllReadyH.nil
          have hcv := wVisitor_any WB wc.drew
          go_simp
          refine hcv.mono ?_
          clear hcv
          rintro e w4 ⟨rfl, hb4⟩
          have HB4 : Hid (Below wc.drew.heap.size wc.drew w4) := hb4
          have HW4 : Hid (WtW w0 w4 WB QM LM base n T S0 Q (tc.say (keyT (K r) c)) bc) := HWc.out.below ((Below.refl _ _).drew.trans hb4)
          have HF4 : Hid (FrV WB LM b' bc wk w4) := HFc.out.wide.below ((Below.refl _ _).drew.trans hb4)
          have HK4 : Hid (ValB w4 qb kk) := blkB (w := wc.drew) HKc.out hb4
          refine hK'.out _ _ ⟨HW4.out.bel, HK4.out⟩ (fun hHeld => ?_)
          clear hK' hb4
          refine wpAnyH_ready (rs := [8]) (by kernel_rfl) (by simp) ?_
          refine AllReadyH.cons rfl (fun K' hK' => ?_) AllReadyH.nil
          have hz4 : base ≤ w4.heap.size := by have := HF4.out.only.size; omega
          have hcall := HIH.out _ _ (tc.say (keyT (K r) c)) (X r c) w4 bc HWat (HE.out.plain.val r hrn c hlt) HLn.out hz4 HW4
          rw [HX.out] at hcall
          go_simp
          refine hcall.mono ?_
          clear hcall
          rintro e w5 ⟨rfl, b5, hW5, hF5⟩
          have HW5 : Hid _ := hW5
          have HF5 : Hid (FrV WB LM b' b5 wk w5) := HF4.out.trans hF5
          have HFn : Hid (FrV WB LM buf b5 w w5) := HFk.out.trans HF5.out
          have HK5 : Hid (ValB w5 qb kk) := HF5.out.blk HKb.out (by omega) (by omega) HQ3.out
          have HB5 : Hid (Below w0.heap.size w0 w5) := by obtain ⟨_, _, h, _⟩ := hW5.st; exact h
          refine hK'.out _ _ ⟨HB5.out, HK5.out⟩ (fun hHeld => ?_)
          clear hK' hHeld hW5 hF5
          refine wpAnyH_done (by kernel_rfl) ?_ _
          go_wp2
          go_roundw
          case rel => exact ⟨c + 1, b5, by omega, by go_num, HWn, by rw [HSn.out]; exact HW5, HFn⟩
          case measure => simp [intOf]; omega
    · obtain rfl : c = L r := by omega
      go_wp2
      go_end0
      exact ⟨rfl, b', HWr.out, HFr.out⟩

end Go.Proofs.YtgflalfiopnmnaaGreatDoor

namespace Go.Proofs.YtgflalfiopnmnaaGreatDoor
open Go.RowKit Vl

theorem lookup_tab {n : Nat} {w0 w : World} {MB : Nat} {T M : Nat → Nat} {at_ : Nat → Int} {L : Nat → Nat} {K X : Nat → Nat → V} {S : List Nat} {q : Nat → Nat} (h : MapG ptr w MB (tabL T S (fun j => .int .i64 (q j : Nat)))) (hb : Below w0.heap.size w0 w) (hT : Tbs w0 n T M at_ L K X) (hF : Fit n S) (hL : ∀ i, i ∉ S → q i = 0) {r : Nat} (hr : r < n) :
    (Instr.lookup 60 (.map (some MB)) (ptr (T r)) false).run Tryz.prog w = .ok (.int .i64 (q r : Nat)) w ∧
    (Instr.lookup 60 (.map (some MB)) (ptr (T r)) true).run Tryz.prog w = .ok (.tuple #[.int .i64 (q r : Nat), .bool (decide (r ∈ S))]) w := by
  have hB : ∀ j, j < n → IsB w (T j) := fun j hj => by
    obtain ⟨ord, h1, _⟩ := hT.tab j hj
    exact ⟨_, _, (hb.block _ (blk_lt h1)).trans h1⟩
  have hok : ∀ p ∈ tabL T S (fun j => .int .i64 (q j : Nat)), IsB w p.1 := fun p hp => by
    obtain ⟨j, hj, rfl⟩ := List.mem_map.1 hp
    exact hB j (hF.lt j hj)
  have hf := find_tab T (fun j => .int .i64 (q j : Nat)) r S (fun i hi e => hT.inj i r (hF.lt i hi) hr e)
  have h1 := (h.lookup leads_keyed (T r) (hB r hr) hok)
  rw [hf] at h1
  by_cases hm : r ∈ S
  · rw [if_pos hm] at h1
    refine ⟨h1.2, ?_⟩
    rw [decide_eq_true hm]
    exact h1.1
  · rw [if_neg hm] at h1
    rw [hL r hm]
    refine ⟨h1.2, ?_⟩
    rw [decide_eq_false hm]
    exact h1.1

theorem WtW.label {w0 w : World} {WB QM LM base n : Nat} {T M : Nat → Nat} {at_ : Nat → Int} {L : Nat → Nat} {K X : Nat → Nat → V} {S0 : List Nat} {Q : Nat → Nat} {t : Ft} {buf : Value} (h : WtW w0 w WB QM LM base n T S0 Q t buf) (hB : WrB w0 WB QM LM base) (hT : Tbs w0 n T M at_ L K X) {r : Nat} (hr : r < n) (hl : t.lab r = 0) :
    (∃ es clk, w.heap[LM]? = some (.map es clk) ∧ es.size = t.N) ∧ ∃ w', (Instr.mapUpdate 60 (.map (some LM)) (ptr (T r)) (.int .i64 (t.N + 1 : Nat))).run Tryz.prog w = .ok () w' ∧ WtW w0 w' WB QM LM base n T S0 Q ⟨t.N + 1, fun i => if i = r then t.N + 1 else t.lab i, t.out⟩ buf ∧ Only (fun k => k = LM) w w' := by
  obtain ⟨ls, hF, hi, hlen, hM⟩ := h.labs
  have hm : r ∉ ls := fun e => by have := (hi r).1 e; omega
  have hIB : ∀ j, j < n → IsB w (T j) := fun j hj => by
    obtain ⟨ord, h1, _⟩ := hT.tab j hj
    exact ⟨_, _, (h.bel.block _ (blk_lt h1)).trans h1⟩
  have hok : ∀ p ∈ tabL T ls (fun j => .int .i64 (t.lab j : Nat)), IsB w p.1 := fun p hp => by
    obtain ⟨j, hj, rfl⟩ := List.mem_map.1 hp
    exact hIB j (hF.lt j hj)
  refine ⟨?_, ?_⟩
  · obtain ⟨es, clk, a, b⟩ := hM.len
    exact ⟨es, clk, a, by rw [b]; simpa using hlen⟩
  have hf := find_tab T (fun j => .int .i64 (t.lab j : Nat)) r ls (fun i hi e => hT.inj i r (hF.lt i hi) hr e)
  rw [if_neg hm] at hf
  obtain ⟨w', a, b, c, d⟩ := hM.update leads_keyed (T r) (.int .i64 (t.N + 1 : Nat)) (hIB r hr) hok hf
  obtain ⟨_, _, _, hk⟩ := owns_form h.st.own
  have o2 : buf.ownBlock ≠ some LM := fun e => by have := (hk _ e).1; have := hB.lmb; omega
  refine ⟨w', a, ⟨⟨?_, c.ownsB h.st.own (fun g hg e => o2 (by rw [hg, e]))⟩, h.lead.same (c.block _ h.lead.lt hB.n3), ?_, h.bel.trans (c.toBelow (fun k hk => by subst hk; exact hB.lm) h.bel.size)⟩, c⟩
  · obtain ⟨p, hp, hb⟩ := h.st.blk
    exact ⟨p, hp, (c.block _ (blk_lt hb) hB.n1).trans hb⟩
  · refine ⟨ls ++ [r], (hF.add hr hm).fit, fun i => ?_, by simp [hlen], ?_⟩
    · show i ∈ ls ++ [r] ↔ 0 < (if i = r then t.N + 1 else t.lab i)
      by_cases e : i = r
      · subst e; simp
      · rw [if_neg e, ← hi i]; simp [e]
    · have e1 : ls.map (fun j => (T j, Value.int .i64 ((if j = r then t.N + 1 else t.lab j : Nat) : Nat))) = ls.map (fun j => (T j, .int .i64 (t.lab j : Nat))) := List.map_congr_left (fun i hi' => by
        have hne : i ≠ r := fun e => hm (e ▸ hi')
        rw [if_neg hne])
      show MapG ptr w' LM (tabL T (ls ++ [r]) (fun j => .int .i64 ((if j = r then t.N + 1 else t.lab j : Nat) : Nat)))
      unfold tabL
      rw [List.map_append, e1]
      simpa using b

set_option maxHeartbeats 4000000 in
set_option maxRecDepth 100000 in
theorem wTable_any (w0 : World) (n : Nat) (T M : Nat → Nat) (at_ : Nat → Int) (L : Nat → Nat) (K X : Nat → Nat → V) (WB QM LM base : Nat) (S0 : List Nat) (Q : Nat → Nat) (HE : Hid (Env w0 n T M at_ L K X WB QM LM base S0 Q)) (f : Nat) (ih : WtV w0 n T L K X WB QM LM base S0 Q f)
    (S : List Nat) (Q0 : Nat → Nat) (t : Ft) (v : V) (h4 : v.k = 4) (r : Nat) (hr : v.a.toNat = r) (hrn : r < n) (w : World) (buf : Value) (HA : Hid (Wat n Q L X (f + 1) S Q0 t v)) (hlen : (frz Q L K X (f + 1) t v).out.length ≤ 100000000) (hbw : base ≤ w.heap.size) (HW : Hid (WtW w0 w WB QM LM base n T S0 Q t buf)) :
    Calls Tryz.prog 54 #[.pointer (some ⟨WB, 0, none⟩), ptr (T r)] w fun e w' => e = .returned (.tuple #[]) ∧ ∃ buf', WSt w0 w' WB QM LM base n T S0 Q (frz Q L K X (f + 1) t v) buf' ∧ FrV WB LM buf buf' w w' := by
  have HIH : Hid (WtV w0 n T L K X WB QM LM base S0 Q f) := ih
  clear ih
  have hWB : WB < base := HE.out.wrb.wbb
  have HTB : Hid (Tbs w0 n T M at_ L K X) := HE.out.tbs
  have HTab : Hid (Tab w) := Tab.env HE.out HW.out.bel
  obtain ⟨p, hp, hblk⟩ := HW.out.st.blk
  obtain ⟨x0, x1, _, _, _, _⟩ := four_at hblk
  clear hp hblk
  have hN : t.N ≤ 200 := by have := HA.out.ok.few; have := HA.out.fit.len; have := HE.out.len; omega
  have hlabN : t.lab r ≤ 200 := Nat.le_trans (HA.out.ok.top r) hN
  obtain ⟨ls, hF, hi, hll, hM⟩ := HW.out.labs
  have hlk := (lookup_tab hM HW.out.bel HTB.out hF (fun i hi' => by have := mt (hi i).2 hi'; omega) hrn).2
  have hld := (lookup_tab HW.out.lead HW.out.bel HTB.out HE.out.fit (fun i hi' => (HE.out.led i).2 hi') hrn).1
  have HWS : Hid (WrS w WB QM LM base buf t.out) := HW.out.st
  by_cases hlab : 0 < t.lab r
  · have HEq : Hid (frz Q L K X (f + 1) t v = t.say (35 :: Lib.itoa (t.lab r : Nat))) := by
      have := wr_old (Q := Q) (L := L) (K := K) (X := X) (f := f) (t := t) h4 (by rw [hr]; exact hlab)
      rw [hr] at this
      exact this
    rw [HEq.out] at hlen ⊢
    rw [say_len] at hlen
    rw [decide_eq_true ((hi r).2 hlab)] at hlk
    have hit := itoa_any (t.lab r : Nat) (by omega) (by omega) w (HTab.out w (Below.refl _ _))
    have hsl : (Lib.itoa (t.lab r : Nat)).length ≤ 20 := itoa_len (by omega) (by omega)
    obtain ⟨str, hstr⟩ : ∃ str : ByteArray, ⟨(Lib.itoa (t.lab r : Nat)).toArray⟩ = str := ⟨_, rfl⟩
    have HCS : Hid (catS [⟨#[35]⟩, str] = 35 :: Lib.itoa (t.lab r : Nat)) := by rw [← hstr]; show _ = _; simp [catS]
    rw [hstr] at hit
    have HC : Hid (∀ w3, Below w.heap.size w w3 → Calls Tryz.prog 91 #[.pointer (some ⟨WB, 0, none⟩), .slice (some ⟨w3.heap.size, 0, none⟩) 2 2] (w3.alloc (.cells #[.string ⟨#[35]⟩, .string str] 9)) fun e w' => e = .returned (.tuple #[]) ∧ ∃ buf', WrS w' WB QM LM base buf' (t.out ++ catS [⟨#[35]⟩, str]) ∧ FrV WB WB buf buf' w w') :=
      fun w3 hb => putL WB QM LM base buf t.out [⟨#[35]⟩, str] w w3 w3.heap.size 2 rfl rfl (by omega) hWB hbw (by rw [HCS.out]; simp only [List.length_cons] at hlen ⊢; omega) HWS hb
    clear hsl hstr hlen hld
    obtain ⟨lv, hlv⟩ : ∃ lv : Nat, t.lab r = lv := ⟨_, rfl⟩
    rw [hlv] at hlk hit
    clear hlab hlabN h4 hr hM hi hll hF
    go_enter Tryz.func54, Tryz.ntmps54
    go_wp2_with (go_at_call 92; refine hit.mono ?_; rintro e w3 ⟨rfl, hx⟩)
    have hb3 : Below w.heap.size w w3 := by obtain ⟨q, os, hw'⟩ := hx; rw [hw']; exact tab_grow
    have hc := HC.out w3 hb3
    clear HC hx hb3 hit
    go_wp2_with (go_at_call 91; refine hc.mono ?_)
    rintro e w4 ⟨rfl, b4, hS4, hF4⟩
    rw [HCS.out] at hS4
    have HEnd : Hid (WSt w0 w4 WB QM LM base n T S0 Q (t.say (35 :: Lib.itoa (t.lab r : Nat))) b4) := Or.inl (HW.out.say HE.out.wrb hS4 hF4)
    have HFE : Hid (FrV WB LM buf b4 w w4) := hF4.wide
    clear hc hS4 hF4
    go_wp2
    refine bodyPost_ret (results_none rfl _ _ _) rfl ?_
    exact ⟨rfl, b4, HEnd.out, HFE.out⟩
  · have hl0 : t.lab r = 0 := by omega
    have hmS : r ∉ S := fun hm => by
      have := HA.out.old h4 (by rw [hr]; exact hm)
      rw [hr] at this
      exact hlab this
    have HEq : Hid (frz Q L K X (f + 1) t v = (wrs Q L K X f (t.head Q r) r (L r)).say [125]) := by
      have := wr_new (Q := Q) (L := L) (K := K) (X := X) (f := f) (t := t) h4 (by rw [hr]; exact hl0)
      rw [hr] at this
      exact this
    rw [HEq.out] at hlen ⊢
    rw [say_len] at hlen
    have HLP : Hid ((wrs Q L K X f (t.head Q r) r (L r)).out.length ≤ 100000000) := show _ ≤ _ by omega
    have HLH : Hid ((t.head Q r).out.length ≤ 100000000) := by
      have h1 := wrs_mono (Q := Q) (L := L) (K := K) (X := X) f (t.head Q r) r (c := 0) (d := L r) (Nat.zero_le _)
      rw [wrs_zero] at h1
      exact Nat.le_trans h1 HLP.out
    have HMi : Hid (Wmid n Q L X f (S ++ [r]) (bump Q0 r) (t.head Q r) r 0) := by
      have := HA.out.into h4 (by rw [hr]; exact hmS)
      rw [hr] at this
      exact this
    have hlo0 : t.out.length ≤ 100000000 := by have := head_len (Q := Q) t r; have := HLH.out; omega
    rw [decide_eq_false (fun e => hlab ((hi r).1 e))] at hlk
    have hqb := HE.out.q r
    by_cases hq : 1 < Q r
    · have hqi : (1 : Int) < ((Q r : Nat) : Int) := by omega
      obtain ⟨⟨es, clk, hes, hesz⟩, w1, hup, hW1, hO1'⟩ := (HW.out.below (Below.refl _ _).drew).label HE.out.wrb HTB.out hrn hl0
      have hO1 : Only (fun k => k = LM) w w1 := (Only.below (Below.refl _ _).drew).trans hO1'
      have hln : (Builtin.len_ #[60] 3 #[.map (some LM)]).run Tryz.prog w.drew = .ok (.int .i64 (es.size : Nat)) w.drew := by simp [Builtin.len_, run_underlying Tryz.underlying60, MapKept.run_getObj_map hes, goInt]
      have HW1 : Hid (WtW w0 w1 WB QM LM base n T S0 Q ⟨t.N + 1, fun i => if i = r then t.N + 1 else t.lab i, t.out⟩ buf) := hW1
      have HF1 : Hid (FrV WB LM buf buf w w1) := ⟨hO1.mono (fun k _ e => Or.inr (Or.inl e)), fun _ _ h => h⟩
      have HO1 : Hid (Only (fun k => k = LM) w w1) := hO1
      have hz1 : base ≤ w1.heap.size := Nat.le_trans hbw HF1.out.only.size
      obtain ⟨p1, hp1, hblk1⟩ := HW1.out.st.blk
      obtain ⟨y0, y1, _, _, _, _⟩ := four_at hblk1
      obtain ⟨ls1, hF1', hi1, hll1, hM1⟩ := HW1.out.labs
      have hlk1 := (lookup_tab hM1 HW1.out.bel HTB.out hF1' (fun i hi' => by have := mt (hi1 i).2 hi'; omega) hrn).1
      simp only [if_true] at hlk1
      have HS1 : Hid (WrS w1 WB QM LM base buf t.out) := HW1.out.st
      have HT1 : Hid (Tab w1) := Tab.env HE.out HW1.out.bel
      obtain ⟨q1, hq1⟩ : ∃ q1 : Nat, t.N + 1 = q1 := ⟨_, rfl⟩
      have hit := itoa_any (q1 : Nat) (by omega) (by omega)
      have hsl : (Lib.itoa (q1 : Nat)).length ≤ 20 := itoa_len (by omega) (by omega)
      obtain ⟨str, hstr⟩ : ∃ str : ByteArray, ⟨(Lib.itoa (q1 : Nat)).toArray⟩ = str := ⟨_, rfl⟩
      have HCS : Hid (catS [⟨#[35]⟩, str, ⟨#[61]⟩] = 35 :: (Lib.itoa (q1 : Nat) ++ [61])) := by rw [← hstr]; show _ = _; simp [catS]
      rw [hstr] at hit
      have HIt : Hid _ := hit
      have HC : Hid (∀ wq w3, WrS wq WB QM LM base buf t.out → base ≤ wq.heap.size → Below wq.heap.size wq w3 → Calls Tryz.prog 91 #[.pointer (some ⟨WB, 0, none⟩), .slice (some ⟨w3.heap.size, 0, none⟩) 3 3] (w3.alloc (.cells #[.string ⟨#[35]⟩, .string str, .string ⟨#[61]⟩] 9)) fun e w' => e = .returned (.tuple #[]) ∧ ∃ buf', WrS w' WB QM LM base buf' (t.out ++ catS [⟨#[35]⟩, str, ⟨#[61]⟩]) ∧ FrV WB WB buf buf' wq w') :=
        fun wq w3 hs hz hb => putL WB QM LM base buf t.out [⟨#[35]⟩, str, ⟨#[61]⟩] wq w3 w3.heap.size 3 rfl rfl (by omega) hWB hz (by rw [HCS.out]; simp only [List.length_cons, List.length_append, List.length_nil]; omega) hs hb
      have HTH : Hid ((Ft.mk (t.N + 1) (fun i => if i = r then t.N + 1 else t.lab i) (t.out ++ (35 :: (Lib.itoa (q1 : Nat) ++ [61])))).say [123] = t.head Q r) := by
        show _ = _
        unfold Ft.head
        rw [if_pos hq, hq1]
        rfl
      rw [hq1] at hlk1 hup HW1 HTH
      have hadd : ((es.size : Nat) : Int) + 1 = (q1 : Int) := by omega
      have hwrp : IntKind.i64.wrap (((es.size : Nat) : Int) + 1) = (q1 : Int) := by rw [hadd, IntKind.wrap_i64]; omega
      have HUP0 : Hid ((Instr.mapUpdate 60 (.map (some LM)) (ptr (T r)) (.int .i64 (q1 : Nat))).run Tryz.prog w.drew = .ok () w1) := hup
      clear hstr hsl hit hq hq1 hW1 hO1 hblk1 hp1 hM1 hi1 hll1 hF1' hM hi hll hF hlab hlabN h4 hr hmS hl0 hesz hadd hlo0 hlen hO1'
      obtain ⟨lv, hlv⟩ : ∃ lv : Nat, t.lab r = lv := ⟨_, rfl⟩
      obtain ⟨qv, hqv⟩ : ∃ qv : Nat, Q r = qv := ⟨_, rfl⟩
      rw [hlv] at hlk
      rw [hqv] at hld hqi hqb
      clear hlv hqv
      go_enter Tryz.func54, Tryz.ntmps54
      go_wp2
      go_region
      go_wp2_with (go_at_call 92; refine (HIt.out w1 (HT1.out w1 (Below.refl _ _))).mono ?_; rintro e w3 ⟨rfl, hx⟩)
      have hb3 : Below w1.heap.size w1 w3 := by obtain ⟨q, os, hw'⟩ := hx; rw [hw']; exact tab_grow
      have hc := HC.out w1 w3 HS1.out hz1 hb3
      clear HC hx hb3 hlk hld hlk1 hup hln hes x0 x1 y0 y1
      go_wp2_with (go_at_call 91; refine hc.mono ?_)
      rintro e w4 ⟨rfl, b4, hS4, hF4⟩
      rw [HCS.out] at hS4
      have hW4 := HW1.out.say HE.out.wrb hS4 hF4
      have HFz : Hid (FrV WB LM buf b4 w w4) := HF1.out.trans hF4.wide
      have hzz : base ≤ w4.heap.size := Nat.le_trans hz1 hF4.only.size
      obtain ⟨t1, ht1⟩ : ∃ t1, Ft.mk q1 (fun i => if i = r then q1 else t.lab i) (t.out ++ (35 :: (Lib.itoa (q1 : Nat) ++ [61]))) = t1 := ⟨_, rfl⟩
      rw [ht1] at HTH
      have HWz : Hid (WtW w0 w4 WB QM LM base n T S0 Q t1 b4) := by rw [← ht1]; exact hW4
      have HSz : Hid (WrS w4 WB QM LM base b4 t1.out) := HWz.out.st
      clear hc hS4 hF4 hW4 ht1
      go_wp2_with fail
      have hlz : t1.out.length ≤ 1000000 + 100000000 := by have := head_len (Q := Q) t r; have := HLH.out; rw [← HTH.out, say_len] at this; omega
      have hca := putL WB QM LM base b4 t1.out [⟨#[123]⟩] w4 w4 w4.heap.size 1 rfl rfl (by omega) hWB hzz (by rw [show (catS [⟨#[123]⟩]).length = 1 from rfl]; omega) HSz (Below.refl _ _)
      go_wp2_with (go_at_call 91; refine hca.mono ?_)
      rintro e wa ⟨rfl, ba, hSa, hFa⟩
      have HCB : Hid (catS [⟨#[123]⟩] = [123]) := rfl
      rw [HCB.out] at hSa
      have hWa := HWz.out.say HE.out.wrb hSa hFa
      rw [HTH.out] at hWa
      have HWa : Hid (WtW w0 wa WB QM LM base n T S0 Q (t.head Q r) ba) := hWa
      have HFa : Hid (FrV WB LM buf ba w wa) := HFz.out.trans hFa.wide
      have hza : base ≤ wa.heap.size := Nat.le_trans hzz hFa.only.size
      clear hca hSa hFa hWa
      have hcb := wPairs_any w0 n T M at_ L K X WB QM LM base S0 Q HE f HIH.out (S ++ [r]) (bump Q0 r) (t.head Q r) r hrn wa ba HMi HLP.out hza HWa
      go_wp2_with (go_at_call 93; refine hcb.mono ?_)
      rintro e wb ⟨rfl, bb, hWb, hFb⟩
      obtain ⟨o, ho1, ho2, ho3, ho4⟩ := hWb.st
      have HO1 : Hid (WrS wb WB QM LM base bb o) := ho1
      have HO2 : Hid (Below w0.heap.size w0 wb) := ho2
      have HO3 : Hid (o.length ≤ (wrs Q L K X f (t.head Q r) r (L r)).out.length) := ho3
      have HO4 : Hid (20000 < o.length ∨ WtW w0 wb WB QM LM base n T S0 Q (wrs Q L K X f (t.head Q r) r (L r)) bb ∧ o = (wrs Q L K X f (t.head Q r) r (L r)).out) := ho4
      have HFb : Hid (FrV WB LM buf bb w wb) := HFa.out.trans hFb
      have hzb : base ≤ wb.heap.size := Nat.le_trans hza hFb.only.size
      have hlo : o.length ≤ 100000000 := Nat.le_trans ho3 HLP.out
      clear hcb ho1 ho2 ho3 ho4 hWb hFb
      have hcc := putL WB QM LM base bb o [⟨#[125]⟩] wb wb wb.heap.size 1 rfl rfl (by omega) hWB hzb (by rw [show (catS [⟨#[125]⟩]).length = 1 from rfl]; omega) HO1 (Below.refl _ _)
      go_wp2_with (go_at_call 91; refine hcc.mono ?_)
      rintro e wc ⟨rfl, bc, hSc, hFc⟩
      have HCC : Hid (catS [⟨#[125]⟩] = [125]) := rfl
      rw [HCC.out] at hSc
      have HEnd : Hid (WSt w0 wc WB QM LM base n T S0 Q ((wrs Q L K X f (t.head Q r) r (L r)).say [125]) bc) := WSt.say HE.out.wrb HO1.out HO2.out HO3.out HO4.out hSc hFc
      have HFE : Hid (FrV WB LM buf bc w wc) := HFb.out.trans hFc.wide
      clear hcc hSc hFc
      go_wp2
      go_end0
      exact ⟨rfl, bc, HEnd.out, HFE.out⟩
    · have hqi : ¬ ((1 : Int) < ((Q r : Nat) : Int)) := by omega
      have HTH : Hid (t.say [123] = t.head Q r) := by show _ = _; unfold Ft.head; rw [if_neg hq]
      have HWz : Hid (WtW w0 w WB QM LM base n T S0 Q t buf) := HW
      have HSz : Hid (WrS w WB QM LM base buf t.out) := HWS
      have HFz : Hid (FrV WB LM buf buf w w) := FrV.refl _ _ _ _
      have hzz : base ≤ w.heap.size := hbw
      obtain ⟨lv, hlv⟩ : ∃ lv : Nat, t.lab r = lv := ⟨_, rfl⟩
      obtain ⟨qv, hqv⟩ : ∃ qv : Nat, Q r = qv := ⟨_, rfl⟩
      rw [hlv] at hlk
      rw [hqv] at hld hqi hqb
      clear hlv hqv hq hM hi hll hF hlab hlabN h4 hr hmS hl0 hlen
      go_enter Tryz.func54, Tryz.ntmps54
      go_wp2_with fail
      have hlz : t.out.length ≤ 1000000 + 100000000 := by have := head_len (Q := Q) t r; have := HLH.out; rw [← HTH.out, say_len] at this; omega
      have hca := putL WB QM LM base buf t.out [⟨#[123]⟩] w w w.heap.size 1 rfl rfl (by omega) hWB hzz (by rw [show (catS [⟨#[123]⟩]).length = 1 from rfl]; omega) HSz (Below.refl _ _)
      go_wp2_with (go_at_call 91; refine hca.mono ?_)
      rintro e wa ⟨rfl, ba, hSa, hFa⟩
      have HCB : Hid (catS [⟨#[123]⟩] = [123]) := rfl
      rw [HCB.out] at hSa
      have hWa := HWz.out.say HE.out.wrb hSa hFa
      rw [HTH.out] at hWa
      have HWa : Hid (WtW w0 wa WB QM LM base n T S0 Q (t.head Q r) ba) := hWa
      have HFa : Hid (FrV WB LM buf ba w wa) := HFz.out.trans hFa.wide
      have hza : base ≤ wa.heap.size := Nat.le_trans hzz hFa.only.size
      clear hca hSa hFa hWa
      have hcb := wPairs_any w0 n T M at_ L K X WB QM LM base S0 Q HE f HIH.out (S ++ [r]) (bump Q0 r) (t.head Q r) r hrn wa ba HMi HLP.out hza HWa
      go_wp2_with (go_at_call 93; refine hcb.mono ?_)
      rintro e wb ⟨rfl, bb, hWb, hFb⟩
      obtain ⟨o, ho1, ho2, ho3, ho4⟩ := hWb.st
      have HO1 : Hid (WrS wb WB QM LM base bb o) := ho1
      have HO2 : Hid (Below w0.heap.size w0 wb) := ho2
      have HO3 : Hid (o.length ≤ (wrs Q L K X f (t.head Q r) r (L r)).out.length) := ho3
      have HO4 : Hid (20000 < o.length ∨ WtW w0 wb WB QM LM base n T S0 Q (wrs Q L K X f (t.head Q r) r (L r)) bb ∧ o = (wrs Q L K X f (t.head Q r) r (L r)).out) := ho4
      have HFb : Hid (FrV WB LM buf bb w wb) := HFa.out.trans hFb
      have hzb : base ≤ wb.heap.size := Nat.le_trans hza hFb.only.size
      have hlo : o.length ≤ 100000000 := Nat.le_trans ho3 HLP.out
      clear hcb ho1 ho2 ho3 ho4 hWb hFb
      have hcc := putL WB QM LM base bb o [⟨#[125]⟩] wb wb wb.heap.size 1 rfl rfl (by omega) hWB hzb (by rw [show (catS [⟨#[125]⟩]).length = 1 from rfl]; omega) HO1 (Below.refl _ _)
      go_wp2_with (go_at_call 91; refine hcc.mono ?_)
      rintro e wc ⟨rfl, bc, hSc, hFc⟩
      have HCC : Hid (catS [⟨#[125]⟩] = [125]) := rfl
      rw [HCC.out] at hSc
      have HEnd : Hid (WSt w0 wc WB QM LM base n T S0 Q ((wrs Q L K X f (t.head Q r) r (L r)).say [125]) bc) := WSt.say HE.out.wrb HO1.out HO2.out HO3.out HO4.out hSc hFc
      have HFE : Hid (FrV WB LM buf bc w wc) := HFb.out.trans hFc.wide
      clear hcc hSc hFc
      go_wp2
      go_end0
      exact ⟨rfl, bc, HEnd.out, HFE.out⟩

end Go.Proofs.YtgflalfiopnmnaaGreatDoor

namespace Go.Proofs.YtgflalfiopnmnaaGreatDoor
open Go.RowKit Vl

theorem wVisit_any (w0 : World) (n : Nat) (T M : Nat → Nat) (at_ : Nat → Int) (L : Nat → Nat) (K X : Nat → Nat → V) (WB QM LM base : Nat) (S0 : List Nat) (Q : Nat → Nat) (HE : Hid (Env w0 n T M at_ L K X WB QM LM base S0 Q)) : ∀ f, WtV w0 n T L K X WB QM LM base S0 Q f := by
  intro f
  induction f with
  | zero => intro S Q0 t v w buf HA _ _ _ _; have := HA.out.fuel; omega
  | succ f ih =>
    intro S Q0 t v w buf HA hsv hlen hbw HW
    have hWB : WB < base := HE.out.wrb.wbb
    by_cases h4 : v.k = 4
    · obtain ⟨a0, a1⟩ := isV_tab HA.out.val h4
      rw [ifv_tab h4]
      refine wVisit_tab WB (T v.a.toNat) w (fun w' => ∃ buf', WSt w0 w' WB QM LM base n T S0 Q (frz Q L K X (f + 1) t v) buf' ∧ FrV WB LM buf buf' w w') ?_
      have hb := below_alloc w (.cells #[fnWT WB, fnWP WB] 66)
      refine (wTable_any w0 n T M at_ L K X WB QM LM base S0 Q HE f ih S Q0 t v h4 v.a.toNat rfl (by omega) _ buf HA hlen (Nat.le_trans hbw hb.size) (HW.out.below hb)).mono ?_
      rintro e w' ⟨rfl, b', h1, h2⟩
      exact ⟨rfl, b', h1, (FrV.first hb).trans h2⟩
    · have hE : frz Q L K X (f + 1) t v = t.say (plT v) := wr_no h4
      rw [hE] at hlen ⊢
      rw [say_len] at hlen
      refine wVisit_plain WB n T at_ v HA.out.val h4 w (fun w' => ∃ buf', WSt w0 w' WB QM LM base n T S0 Q (t.say (plT v)) buf' ∧ FrV WB LM buf buf' w w') (fun w' hb j hj => ?_) (fun w1 hb hl => ?_)
      · have hb0 := HW.out.bel.trans (hb.mono HW.out.bel.size)
        exact (hb0.cell (p := ⟨T j, 0, none⟩) (HE.out.tbs.lt hj)).trans (HE.out.tbs.at0 j hj)
      · have hW1 := HW.out.below hb
        refine (wplain_any WB QM LM base buf t.out v w1 hWB (Nat.le_trans hbw hb.size) (by omega) (kindsF HA.out.val h4) hsv (Tab.env HE.out hW1.bel) hW1.st).mono ?_
        rintro e w' ⟨rfl, b', h1, h2⟩
        refine ⟨rfl, ⟨b', Or.inl (hW1.say HE.out.wrb h1 h2), (FrV.first hb).trans h2.wide⟩, ?_⟩
        refine h2.only.block _ hl (fun x => ?_)
        obtain ⟨_, _, _, hk⟩ := owns_form HW.out.st.own
        rcases x with x | x | x
        · omega
        · omega
        · have := (hk _ x).2
          omega

theorem cellsU8 : Tryz.prog.cellsOf 5 = 1 := by kernel_rfl

set_option maxHeartbeats 1000000 in
set_option maxRecDepth 100000 in
theorem bString_any (WB QM LM base : Nat) (buf : Value) (bs : List UInt8) (h0 : bs ≠ []) (w w0 : World) (hb0 : Below w0.heap.size w0 w) (hbase : w0.heap.size ≤ base) (H : Hid (WrS w WB QM LM base buf bs)) :
    Calls Tryz.prog 28 #[pW WB] w fun e w' => e = .returned (.string ⟨bs.toArray⟩) ∧ Below w0.heap.size w0 w' := by
  obtain ⟨p, hp, hblk⟩ := H.out.blk
  have hl0 : bs.length ≠ 0 := by simpa using h0
  have hown := H.out.own
  obtain ⟨g, cap, cur, rfl, hbg, hg, hnc, hcm, hcs, htake⟩ : ∃ g cap cur, buf = .slice (some ⟨g, 0, none⟩) bs.length cap ∧ base ≤ g ∧ w.heap[g]? = some (.cells cur 5 (0, 0)) ∧ bs.length ≤ cap ∧ cap ≤ maxLen ∧ cur.size = cap * 1 ∧ cur.toList.take (bs.length * 1) = Lib.byteCells bs := by
    rcases hown.2 with ⟨_, hz⟩ | ⟨g, cap, cur, hv, r⟩
    · exact absurd hz hl0
    · exact ⟨g, cap, cur, hv, r⟩
  obtain ⟨_, _, _, c3, _, _⟩ := four_at (w := w.drew) hblk
  have hSD : (Builtin.unsafeSliceData_ #[22] 134 #[.slice (some ⟨g, 0, none⟩) bs.length cap]).run Tryz.prog w.drew = .ok (.pointer (some ⟨g, 0, none⟩)) w.drew :=
    Lib.run_unsafeSliceData_row _ _ _ _ _ _ (by omega)
  have hUS : (Builtin.unsafeString_ #[134, 3] 9 #[.pointer (some ⟨g, 0, none⟩), .int .i64 bs.length]).run Tryz.prog w.drew = .ok (.string ⟨bs.toArray⟩) (w.drew.freeze ⟨g, 0, none⟩ bs.length) := by
    refine Lib.run_unsafeString_row w.drew 134 3 9 5 Tryz.underlying134 cellsU8 g cur.size (by have hg' : w.drew.heap[g]? = some (.cells cur 5 (0, 0)) := hg; simp [World.shape?, hg']) bs h0 (by omega) (by unfold maxLen at hcm; omega) ?_
    intro j x hx
    exact hown.cells (g := g) rfl j (.int .u8 x.toNat) (by simp [Lib.byteCells, hx])
  have HB : Hid (Below w0.heap.size w0 (w.drew.freeze ⟨g, 0, none⟩ bs.length)) := Lib.below_freeze hb0.drew (p := ⟨g, 0, none⟩) (Nat.le_trans hbase hbg) _
  clear hcs htake hcm hnc hg hown hblk hp hb0
  go_enter Tryz.func28, Tryz.ntmps28
  go_wp2
  go_region
  all_goals (go_wp2; go_ret; exact ⟨rfl, HB.out⟩)

end Go.Proofs.YtgflalfiopnmnaaGreatDoor
