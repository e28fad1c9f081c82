import Derived.Test.YtgflalfiopnmnaaGreatDoorT12
import Derived.WalkMore
import Derived.Test.YtgflalfiopnmnaaGreatDoorT5
import Derived.Test.YtgflalfiopnmnaaGreatDoorT3
import Derived.Test.YtgflalfiopnmnaaGreatDoorT2
namespace Go.Proofs.YtgflalfiopnmnaaGreatDoor
open Go.RowKit Vl

def sepT (Q L : Nat → Nat) (K X : Nat → Nat → V) (f : Nat) (th : Ft) (r c : Nat) : Ft := if c = 0 then th else (wrs Q L K X f th r c).say [44, 32]
theorem sep_say (Q L : Nat → Nat) (K X : Nat → Nat → V) (f : Nat) (th : Ft) (r c : Nat) : (sepT Q L K X f th r c).say (plT (K r c) ++ [58, 32]) = (wrs Q L K X f th r c).say (keyT (K r) c) := by
  unfold sepT
  by_cases h : c = 0
  · subst h
    rw [if_pos rfl, keyT_zero, wrs_zero]
  · rw [if_neg h, keyT_pos _ (by omega), say_app2]

structure Mid (n : Nat) (Q L : Nat → Nat) (K X : Nat → Nat → V) (w0 wr : World) (R LM : Nat) (s : ByteArray) (f : Nat) (S : List Nat) (t : Ft) (r c : Nat) (T T' M' : Nat → Nat) (O' : Nat → Value) (cc cc' : Nat → Nat) : Prop where
  same : ∀ i ∈ S, T' i = T i ∧ (i ≠ r → cc' i = cc i)
  at_ : cc' r = c
  full : ∀ i ∈ mets L X f S (X r) c, i ∉ S → cc' i = L i
  st : St n w0 wr R LM s K X (mets L X f S (X r) c) t T' M' O' cc'

theorem wmid_all {n : Nat} {Q L : Nat → Nat} {K X : Nat → Nat → V} {f : Nat} {S : List Nat} {Q0 : Nat → Nat} {th : Ft} {r : Nat} (hg : Good n L X) (hr : r < n) (h : Wmid n Q L X f S Q0 th r 0) : ∀ c, c ≤ L r → Wmid n Q L X f S Q0 (wrs Q L K X f th r c) r c := by
  intro c
  induction c with
  | zero => intro _; exact h
  | succ c ih =>
    intro hc
    rw [wrs_succ]
    exact (ih (by omega)).next hg hr (by omega) _

set_option maxHeartbeats 4000000 in
set_option maxRecDepth 100000 in
theorem rdPairs_any {n : Nat} {Q L : Nat → Nat} {K X : Nat → Nat → V} {w0 : World} {R LM : Nat} {s : ByteArray} {f : Nat} (HGl : Hid (Gl n L K X s)) (HV : Hid (VOk n Q L K X w0 R LM s f)) (S : List Nat) (Q0 : Nat → Nat) (th : Ft) (r : Nat) (w : World) (T M : Nat → Nat) (O : Nat → Value) (cc : Nat → Nat)
    (hr : r < n) (hrS : r ∈ S) (hcc : cc r = 0) (HW : Hid (Wmid n Q L X f S Q0 th r 0)) (HP : Hid (Pre s ((wrs Q L K X f th r (L r)).say [125]).out)) (HS : Hid (St n w0 w R LM s K X S th T M O cc)) :
    Calls Tryz.prog 132 #[pR R, ptr (T r)] w fun e w' => e = .returned .nilIface ∧ ∃ (T' M' : Nat → Nat) (O' : Nat → Value) (cc' : Nat → Nat), Mid n Q L K X w0 w' R LM s f S ((wrs Q L K X f th r (L r)).say [125]) r (L r) T T' M' O' cc cc' := by
  have hmax := HGl.out.max
  have HMid : Hid (∀ c, c ≤ L r → Wmid n Q L X f S Q0 (wrs Q L K X f th r c) r c) := wmid_all HGl.out.good hr HW.out
  have HKf : Hid (∀ c, c < L r → ∃ b a, plT (K r c) = b :: a ∧ b ≠ 32 ∧ b ≠ 10 ∧ b.toNat ≠ 125) := fun c hc => by
    obtain ⟨b, a, e, _, _, _, h32, h10, h125⟩ := plH (key_k (((HGl.out.all r hr).all c hc).key)).1
    exact ⟨b, a, e, fun e => h32 (by rw [e]; rfl), fun e => h10 (by rw [e]; rfl), h125⟩
  have hsz0 : th.out.length ≤ s.size := by have := (pre_mid HP.out (Nat.zero_le _)).1.le; rwa [wrs_zero] at this
  have hpk0 : (L r = 0 → Nx s th.out.length [125]) ∧ (0 < L r → pk s th.out.length ≠ 32 ∧ pk s th.out.length ≠ 10 ∧ pk s th.out.length ≠ 125) := by
    obtain ⟨_, h1, h2⟩ := pre_mid HP.out (Nat.zero_le (L r))
    rw [wrs_zero] at h1 h2
    refine ⟨fun e => h1 e.symm, fun h => ?_⟩
    obtain ⟨b, a, e, h32, h10, h125⟩ := HKf.out 0 h
    have := h2 h
    rw [keyT_zero, e] at this
    rw [Nx.pk this]
    exact ⟨fun e => h32 (UInt8.toNat_inj.1 e), fun e => h10 (UInt8.toNat_inj.1 e), h125⟩
  have hbk : Blk s th.out.length 0 := blk0 hsz0 (by
    by_cases h : L r = 0
    · rw [Nx.pk (hpk0.1 h)]; decide
    · exact ⟨(hpk0.2 (by omega)).1, (hpk0.2 (by omega)).2.1⟩)
  have hsk := skip_any R th.out.length LM S.length s 0 w hmax hbk HS.out.rd
  go_enter Tryz.func132, Tryz.ntmps132
  go_wp2
  go_step3
  go_wp2_with (go_at_call 62; refine hsk.mono ?_)
  rintro e w1 ⟨rfl, h1⟩
  have HS1 : Hid (St n w0 w1 R LM s K X S th T M O cc) := HS.out.stp h1
  clear hsk h1 HS hbk
  by_cases hL : L r = 0
  · have hty := take_yes R th.out.length LM S.length s 125 w1 (hpk0.1 hL).hd.2.1 hmax (hpk0.1 hL).pk HS1.out.rd
    go_wp2_with (go_at_call 100; refine hty.mono ?_)
    rintro e w2 ⟨rfl, h2⟩
    have HS2 : Hid (St n w0 w2 R LM s K X S (th.say [125]) T M O cc) := HS1.out.say _ h2
    clear hty h2
    go_wp2
    rw [Exit.noGoto_ret]
    go_ret
    refine ⟨rfl, T, M, O, cc, fun i hi => ⟨rfl, fun _ => rfl⟩, by rw [hcc, hL], fun i hi hn => ?_, ?_⟩
    · rw [hL] at hi; exact absurd hi hn
    · rw [hL]; exact HS2.out
  have hpk1 := hpk0.2 (by omega)
  have htn := take_no R th.out.length LM S.length s 125 w1 hsz0 hpk1.2.2 HS1.out.rd
  go_wp2_with (go_at_call 100; refine htn.mono ?_)
  rintro e w2 ⟨rfl, h2⟩
  have HM2 : Hid (Mid n Q L K X w0 w2 R LM s f S (sepT Q L K X f th r 0) r 0 T T M O cc cc) := ⟨fun i hi => ⟨rfl, fun _ => rfl⟩, hcc, fun i hi hn => absurd hi hn, HS1.out.still h2⟩
  clear htn h2 HS1 hpk0 hpk1 hsz0
  have hL0 : 0 < L r := by omega
  go_wp2
  go_step3
  go_wp2
  go_loopw [] (fun wr => ∃ (c : Nat) (T' M' : Nat → Nat) (O' : Nat → Value) (cc' : Nat → Nat), c < L r ∧ Hid (Mid n Q L K X w0 wr R LM s f S (sepT Q L K X f th r c) r c T T' M' O' cc cc')) (fun wr => s.size - posOf wr R)
  case atStart => exact ⟨0, T, M, O, cc, hL0, HM2⟩
  case round =>
    obtain ⟨c, T1, M1, O1, cc1, hc, HM⟩ := hrel
    have HPos : Hid (posOf wr R = (sepT Q L K X f th r c).out.length) := HM.out.st.rd.pos
    have HTe : Hid ((sepT Q L K X f th r c).say (plT (K r c) ++ [58, 32]) = (wrs Q L K X f th r c).say (keyT (K r) c)) := sep_say Q L K X f th r c
    have HWc : Hid (Wat n Q L X f (mets L X f S (X r) c) (cnts L X f Q0 (X r) c) ((wrs Q L K X f th r c).say (keyT (K r) c)) (X r c)) := (HMid.out c (by omega)).at HGl.out.good hr hc _
    obtain ⟨m1, m2, m3⟩ := pre_mid HP.out (show c + 1 ≤ L r from hc)
    have HPc : Hid (Pre s (frz Q L K X f ((wrs Q L K X f th r c).say (keyT (K r) c)) (X r c)).out) := by rw [← wrs_succ]; exact m1
    have HN1 : Hid (c + 1 = L r → Nx s (wrs Q L K X f th r (c + 1)).out.length [125]) := m2
    have HN2 : Hid (c + 1 < L r → Nx s (wrs Q L K X f th r (c + 1)).out.length ([44, 32] ++ (plT (K r (c + 1)) ++ [58, 32]))) := fun h => by have := m3 h; rwa [keyT_pos _ (by omega)] at this
    have hle := m1.le
    have hpk2 : pk s (wrs Q L K X f th r (c + 1)).out.length = if c + 1 = L r then 125 else 44 := by
      by_cases h : c + 1 = L r
      · rw [if_pos h]; exact (HN1.out h).pk
      · rw [if_neg h]; exact (HN2.out (by omega)).pk
    have HAc : Hid (After s (frz Q L K X f ((wrs Q L K X f th r c).say (keyT (K r) c)) (X r c)).out.length) := by
      rw [← wrs_succ]
      show _ ∨ _ ∨ _
      rw [hpk2]
      by_cases h : c + 1 = L r
      · rw [if_pos h]; omega
      · rw [if_neg h]; omega
    have hlen : (sepT Q L K X f th r c).out.length < (wrs Q L K X f th r (c + 1)).out.length := by
      rw [wrs_succ]
      have := wr_mono (Q := Q) (L := L) (K := K) (X := X) f ((wrs Q L K X f th r c).say (keyT (K r) c)) (X r c)
      rw [← HTe.out, say_len] at this
      simp only [List.length_append, List.length_cons, List.length_nil] at this
      rw [← HTe.out]
      omega
    clear m1 m2 m3
    have hrm : r ∈ mets L X f S (X r) c := (HMid.out c (by omega)).fit.mem hrS
    have hpr := pair_any HGl HV (mets L X f S (X r) c) (cnts L X f Q0 (X r) c) (sepT Q L K X f th r c) _ r c wr T1 M1 O1 cc1 hr hrm HM.out.at_ hc HTe HWc HPc HAc HM.out.st
    rw [(HM.out.same r hrS).1] at hpr
    go_wp2_with (go_at_call 155; refine hpr.mono ?_)
    clear hpr
    rintro e w3 ⟨rfl, T2, M2, O2, cc2, g1, g2, g3, g4⟩
    have HM3 : Hid (Mid n Q L K X w0 w3 R LM s f S (wrs Q L K X f th r (c + 1)) r (c + 1) T T2 M2 O2 cc cc2) := by
      have hsub := (HMid.out c (by omega)).fit
      refine ⟨fun i hi => ?_, g2, fun i hi hn => ?_, ?_⟩
      · obtain ⟨x1, x2⟩ := g1 i (hsub.mem hi)
        obtain ⟨y1, y2⟩ := HM.out.same i hi
        exact ⟨x1.trans y1, fun hne => (x2 hne).trans (y2 hne)⟩
      · rw [mets_succ] at hi
        by_cases hm : i ∈ mets L X f S (X r) c
        · have hne : i ≠ r := fun e => hn (e ▸ hrS)
          rw [(g1 i hm).2 hne]
          exact HM.out.full i hm hn
        · exact g3 i hi hm
      · rw [mets_succ, wrs_succ]; exact g4
    clear g1 g2 g3 g4 HM HWc HPc HAc
    obtain ⟨q, hq⟩ : ∃ q, (wrs Q L K X f th r (c + 1)).out.length = q := ⟨_, rfl⟩
    have HR3 : Hid (RdB w3 R s q LM (mets L X f S (X r) (c + 1)).length) := by have := HM3.out.st.rd; rw [hq] at this; exact this
    have HQ : Hid _ := hq
    rw [hq] at hpk2 hle hlen
    clear hq
    have hbq : Blk s q 0 := blk0 hle (by rw [hpk2]; split <;> decide)
    go_wp2_with (go_at_call 62; refine (skip_any R q LM (mets L X f S (X r) (c + 1)).length s 0 w3 hmax hbq HR3).mono ?_)
    rintro e w4 ⟨rfl, h4⟩
    have HM4 : Hid (Mid n Q L K X w0 w4 R LM s f S (wrs Q L K X f th r (c + 1)) r (c + 1) T T2 M2 O2 cc cc2) := ⟨HM3.out.same, HM3.out.at_, HM3.out.full, HM3.out.st.stp (by rw [HQ.out]; exact h4)⟩
    have HR4 : Hid (RdB w4 R s q LM (mets L X f S (X r) (c + 1)).length) := h4.rd
    clear h4 HM3 HR3 hbq
    by_cases hlast : c + 1 = L r
    · rw [if_pos hlast] at hpk2
      have hq1 : q < s.size := by have := (HN1.out hlast).hd.2.1; rw [HQ.out] at this; exact this
      have hty := take_yes R q LM (mets L X f S (X r) (c + 1)).length s 125 w4 hq1 hmax hpk2 HR4
      go_wp2_with (go_at_call 100; refine hty.mono ?_)
      rintro e w5 ⟨rfl, h5⟩
      have HM5 : Hid (Mid n Q L K X w0 w5 R LM s f S ((wrs Q L K X f th r (L r)).say [125]) r (L r) T T2 M2 O2 cc cc2) := by
        rw [← hlast]
        exact ⟨HM4.out.same, HM4.out.at_, HM4.out.full, HM4.out.st.say _ (by rw [HQ.out]; exact h5)⟩
      clear hty h5 HM4 HR4
      go_wp2
      rw [Exit.noGoto_ret]
      go_ret
      exact ⟨rfl, T2, M2, O2, cc2, HM5.out⟩
    · rw [if_neg hlast] at hpk2
      have hn2 := HN2.out (by omega)
      rw [HQ.out] at hn2
      obtain ⟨_, hq1, hn3⟩ := hn2.hd
      obtain ⟨b, a, eb, h32, h10, _⟩ := HKf.out (c + 1) (by omega)
      have hn4 : Nx s (q + 1) (32 :: b :: (a ++ [58, 32])) := by rw [eb] at hn3; exact hn3
      have hbq : Blk s (q + 1) 1 := blk1 hn4 h32 h10
      have htn := take_no R q LM (mets L X f S (X r) (c + 1)).length s 125 w4 hle (by rw [hpk2]; decide) HR4
      clear hn2 hn3 hn4 eb h32 h10
      go_wp2_with (go_at_call 100; refine htn.mono ?_)
      rintro e w5 ⟨rfl, h5⟩
      have HM5 : Hid (Mid n Q L K X w0 w5 R LM s f S (wrs Q L K X f th r (c + 1)) r (c + 1) T T2 M2 O2 cc cc2) := ⟨HM4.out.same, HM4.out.at_, HM4.out.full, HM4.out.st.still h5⟩
      have HR5 : Hid (RdB w5 R s q LM (mets L X f S (X r) (c + 1)).length) := HR4.out.below h5
      clear h5 HM4 HR4 htn
      have hty := take_yes R q LM (mets L X f S (X r) (c + 1)).length s 44 w5 hq1 hmax hpk2 HR5
      go_wp2_with (go_at_call 100; refine hty.mono ?_)
      rintro e w6 ⟨rfl, h6⟩
      have HM6 : Hid (Mid n Q L K X w0 w6 R LM s f S ((wrs Q L K X f th r (c + 1)).say [44]) r (c + 1) T T2 M2 O2 cc cc2) := ⟨HM5.out.same, HM5.out.at_, HM5.out.full, HM5.out.st.say _ (by rw [HQ.out]; exact h6)⟩
      have HR6 : Hid (RdB w6 R s (q + 1) LM (mets L X f S (X r) (c + 1)).length) := h6.rd
      clear h6 HM5 HR5 hty
      go_wp2_with (go_at_call 62; refine (skip_any R (q + 1) LM (mets L X f S (X r) (c + 1)).length s 1 w6 hmax hbq HR6).mono ?_)
      rintro e w7 ⟨rfl, h7⟩
      have HM7 : Hid (Mid n Q L K X w0 w7 R LM s f S (sepT Q L K X f th r (c + 1)) r (c + 1) T T2 M2 O2 cc cc2) := by
        refine ⟨HM6.out.same, HM6.out.at_, HM6.out.full, ?_⟩
        have := HM6.out.st.say [32] (by rw [say_len, HQ.out]; exact h7)
        rw [say_app2] at this
        unfold sepT
        rw [if_neg (by omega)]
        exact this
      have HP7 : Hid (posOf w7 R = q + 1 + 1) := h7.rd.pos
      have HL7 : Hid (q + 1 + 1 ≤ s.size) := hbq.le
      clear h7 HM6 HR6 hbq
      go_wp2
      go_roundw
      case rel => exact ⟨c + 1, T2, M2, O2, cc2, by omega, HM7⟩
      case measure => have := HPos.out; have := HP7.out; have := HL7.out; omega

end Go.Proofs.YtgflalfiopnmnaaGreatDoor

namespace Go.Proofs.YtgflalfiopnmnaaGreatDoor
open Go.RowKit Vl

theorem mkT {w : World} {R p LM tb : Nat} {s : ByteArray} (h : RdB w R s p LM tb) {w' : World} (hw : w' = (((w.setCell ⟨R, 1, none⟩ (.int .i64 ((p : Int) + 1))).setCell ⟨R, 3, none⟩ (.int .i64 ((tb : Int) + 1))).alloc (.map #[] 0)).alloc (.cells #[.int .i64 0, .map (some w.heap.size), .slice none 0 0] 121)) :
    RdB w' R s (p + 1) LM (tb + 1) ∧ OnR R w w' ∧ TabB w' (w.heap.size + 1) w.heap.size 0 (.slice none 0 0) ∧ MapIs w' w.heap.size [] ∧ w'.heap.size = w.heap.size + 2 := by
  obtain ⟨w1, hw1⟩ : ∃ w1, w1 = w.setCell ⟨R, 1, none⟩ (.int .i64 ((p : Int) + 1)) := ⟨_, rfl⟩
  obtain ⟨w2, hw2⟩ : ∃ w2, w2 = w1.setCell ⟨R, 3, none⟩ (.int .i64 ((tb : Int) + 1)) := ⟨_, rfl⟩
  obtain ⟨w3, hw3⟩ : ∃ w3, w3 = w2.alloc (.map #[] 0) := ⟨_, rfl⟩
  rw [← hw1, ← hw2, ← hw3] at hw
  have r1 : RdB w1 R s (p + 1) LM tb := by rw [hw1, show (p : Int) + 1 = ((p + 1 : Nat) : Int) by omega]; exact h.set (p + 1)
  have r2 : RdB w2 R s (p + 1) LM (tb + 1) := by rw [hw2, show (tb : Int) + 1 = ((tb + 1 : Nat) : Int) by omega]; exact r1.setT (tb + 1)
  have s1 : w1.heap.size = w.heap.size := by rw [hw1]; simp [World.setCell]
  have s2 : w2.heap.size = w.heap.size := by rw [hw2, ← s1]; simp [World.setCell]
  have s3 : w3.heap.size = w.heap.size + 1 := by rw [hw3, ← s2]; simp
  have o1 : OnR R w w1 := by rw [hw1]; exact (Only.refl (fun k => k = R) w).set rfl _
  have o2 : OnR R w w2 := by rw [hw2]; exact o1.set rfl _
  have b3 : Below w2.heap.size w2 w3 := by rw [hw3]; exact below_alloc _ _
  have b4 : Below w3.heap.size w3 w' := by rw [hw]; exact below_alloc _ _
  refine ⟨(r2.below b3).below b4, (o2.trans (Only.below b3)).trans (Only.below b4), ?_, ?_, ?_⟩
  · unfold TabB
    rw [hw, ← s3]
    exact heap_alloc_new _ _
  · refine ⟨#[], 0, ?_, rfl⟩
    rw [b4.block _ (by omega), ← s2, hw3]
    exact heap_alloc_new _ _
  · rw [hw, ← s2]
    have : w3.heap.size = w2.heap.size + 1 := by omega
    simp [this]

section
variable {n : Nat} {Q L : Nat → Nat} {K X : Nat → Nat → V} {w0 : World} {R LM : Nat} {s : ByteArray} {f : Nat}

theorem lab_new {S : List Nat} {t : Ft} {r tb : Nat} {T : Nat → Nat} {w w' : World} (hok : Wok n Q S t) (hr : r ∉ S) (hlab : ∃ l, LabI w LM l ∧ (∀ i, 0 < t.lab i → findI (t.lab i : Nat) l = some (ptr (T i))) ∧ ∀ k : Nat, t.N < k → findI (k : Nat) l = none)
    (h0 : ¬ 1 < Q r) (e : w'.heap[LM]? = w.heap[LM]?) : ∃ l, LabI w' LM l ∧ (∀ i, 0 < (t.head Q r).lab i → findI ((t.head Q r).lab i : Nat) l = some (ptr (updF T r tb i))) ∧ ∀ k : Nat, (t.head Q r).N < k → findI (k : Nat) l = none := by
  obtain ⟨l, h1, h2, h3⟩ := hlab
  have eh : t.head Q r = t.say [123] := by unfold Ft.head; rw [if_neg h0]
  rw [eh]
  refine ⟨l, h1.same e, fun i hi => ?_, h3⟩
  have hi' : 0 < t.lab i := hi
  have hne : i ≠ r := fun e => hr (e ▸ ((hok.lab i).1 hi').1)
  rw [updF_ne _ _ hne]
  exact h2 i hi'
theorem lab_put {t : Ft} {r tb : Nat} {T : Nat → Nat} {w' : World} {l : List (Int × Value)} (h2 : ∀ i, 0 < t.lab i → findI (t.lab i : Nat) l = some (ptr (T i))) (h3 : ∀ k : Nat, t.N < k → findI (k : Nat) l = none)
    (h0 : 1 < Q r) (hl : LabI w' LM (l ++ [(((t.N + 1 : Nat) : Int), ptr tb)])) : ∃ l, LabI w' LM l ∧ (∀ i, 0 < (t.head Q r).lab i → findI ((t.head Q r).lab i : Nat) l = some (ptr (updF T r tb i))) ∧ ∀ k : Nat, (t.head Q r).N < k → findI (k : Nat) l = none := by
  have e1 : (t.head Q r).lab = fun i => if i = r then t.N + 1 else t.lab i := by unfold Ft.head; rw [if_pos h0]
  have e2 : (t.head Q r).N = t.N + 1 := by unfold Ft.head; rw [if_pos h0]
  rw [e1, e2]
  refine ⟨_, hl, fun i hi => ?_, fun k hk => ?_⟩
  · rw [findI_app]
    by_cases e : i = r
    · simp only [if_pos e]
      rw [h3 (t.N + 1) (by omega), e, updF_at]
      simp
    · simp only [if_neg e] at hi ⊢
      rw [h2 i hi, updF_ne _ _ e]
      rfl
  · rw [findI_app, h3 k (by omega), if_neg (by omega)]
    rfl

set_option maxHeartbeats 4000000 in
set_option maxRecDepth 100000 in
theorem table_any (HGl : Hid (Gl n L K X s)) (HV : Hid (VOk n Q L K X w0 R LM s f)) (S : List Nat) (Q0 : Nat → Nat) (t t1 : Ft) (v : V) (w : World) (T M : Nat → Nat) (O : Nat → Value) (cc : Nat → Nat) (lb r : Nat)
    (h4 : v.k = 4) (hrv : v.a.toNat = r) (hm : r ∉ S) (hlb : lb = if 1 < Q r then t.N + 1 else 0) (HW : Hid (Wat n Q L X (f + 1) S Q0 t v)) (HT1 : Hid (t1.N = t.N ∧ t1.lab = t.lab ∧ (t.head Q r).out = t1.out ++ [123]))
    (HP : Hid (Pre s (frz Q L K X (f + 1) t v).out)) (HS : Hid (St n w0 w R LM s K X S t1 T M O cc)) :
    Calls Tryz.prog 103 #[pR R, .int .i64 (lb : Int)] w fun e w' => ∃ (T' M' : Nat → Nat) (O' : Nat → Value) (cc' : Nat → Nat), e = .returned (.tuple #[ifv T' v, .nilIface]) ∧ Rch L S (met L X (f + 1) S v) T T' cc cc' ∧ St n w0 w' R LM s K X (met L X (f + 1) S v) (frz Q L K X (f + 1) t v) T' M' O' cc' := by
  have hmax := HGl.out.max
  have hmv : v.a.toNat ∉ S := by rw [hrv]; exact hm
  obtain ⟨a0, a1⟩ := isV_tab HW.out.val h4
  have hr : r < n := by omega
  have hless : S.length < 200 := Nat.lt_of_lt_of_le (HW.out.fit.less hr hm) HGl.out.len
  have HMt : Hid (met L X (f + 1) S v = mets L X f (S ++ [r]) (X r) (L r)) := by show _ = _; rw [met_new h4 hmv, hrv]
  have HFr : Hid (frz Q L K X (f + 1) t v = (wrs Q L K X f (t.head Q r) r (L r)).say [125]) := by show _ = _; rw [wr_new h4 (HW.out.none hmv), hrv]
  have HWm : Hid (Wmid n Q L X f (S ++ [r]) (bump Q0 r) (t.head Q r) r 0) := by have := HW.out.into h4 hmv; rwa [hrv] at this
  have HPw : Hid (Pre s ((wrs Q L K X f (t.head Q r) r (L r)).say [125]).out) := by have := HP.out; rw [HFr.out] at this; exact this
  have hnx : Nx s t1.out.length [123] := by
    have := (pre_mid HPw.out (Nat.zero_le _)).1
    rw [wrs_zero, HT1.out.2.2] at this
    exact this.nx
  obtain ⟨p, hp⟩ : ∃ p, t1.out.length = p := ⟨_, rfl⟩
  have HHl : Hid ((t.head Q r).out.length = p + 1) := by show _ = _; rw [HT1.out.2.2, ← hp]; simp
  have HR0 : Hid (RdB w R s p LM S.length) := by have := HS.out.rd; rw [hp] at this; exact this
  rw [hp] at hnx
  have hpk := peek_any R p LM S.length s w (by have := hnx.hd.2.1; omega) HR0
  rw [hnx.pk] at hpk
  have hpl := hnx.hd.2.1
  have n200 : ¬ ((S.length : Int) = 200) := by omega
  have HIF : Hid (∀ T' : Nat → Nat, ifv T' v = .iface 107 (ptr (T' r))) := fun T' => by rw [ifv_tab h4, hrv]
  have HOk : Hid (Wok n Q S t) := HW.out.ok
  clear hnx hmv a0 a1 HW HP h4 hrv
  go_enter Tryz.func103, Tryz.ntmps103
  go_wp2_with (go_at_call 101; refine hpk.mono ?_)
  try simp only [and_imp]
  rintro e w1 rfl hb1
  have HS1 : Hid (St n w0 w1 R LM s K X S t1 T M O cc) := HS.out.still hb1
  have HR1 : Hid (RdB w1 R s p LM S.length) := HR0.out.below hb1
  clear hpk hb1 HS HR0
  obtain ⟨c0, c1, c2, c3, _, cz⟩ := four_at HR1.out
  have z1 := cz 1
  have z3 := cz 3
  clear cz
  obtain ⟨w4, hw4⟩ : ∃ w4, w4 = (((w1.setCell ⟨R, 1, none⟩ (.int .i64 ((p : Int) + 1))).setCell ⟨R, 3, none⟩ (.int .i64 ((S.length : Int) + 1))).alloc (.map #[] 0)).alloc (.cells #[.int .i64 0, .map (some w1.heap.size), .slice none 0 0] 121) := ⟨_, rfl⟩
  obtain ⟨k1, k2, k3, k4, k5⟩ := mkT HR1.out hw4
  obtain ⟨l, l1, l2, l3⟩ := HS1.out.lab
  have hLR : LM ≠ R := HS1.out.labNe
  have l4 : w4.heap[LM]? = w1.heap[LM]? := k2.block _ l1.lt hLR
  have HK1 : Hid (RdB w4 R s (p + 1) LM (S.length + 1)) := k1
  have HK2 : Hid (OnR R w1 w4) := k2
  have HK3 : Hid (TabB w4 (w1.heap.size + 1) w1.heap.size 0 (.slice none 0 0)) := k3
  have HK4 : Hid (MapIs w4 w1.heap.size []) := k4
  have hmm := @run_makeMap Tryz.prog
  have HFin : Hid (∀ (e : Ending) (w' : World) (T' M' : Nat → Nat) (O' : Nat → Value) (cc' : Nat → Nat), Mid n Q L K X w0 w' R LM s f (S ++ [r]) ((wrs Q L K X f (t.head Q r) r (L r)).say [125]) r (L r) (updF T r (w1.heap.size + 1)) T' M' O' (updF cc r 0) cc' → e = .returned (.tuple #[.iface 107 (ptr (w1.heap.size + 1)), .nilIface]) →
      ∃ (T' M' : Nat → Nat) (O' : Nat → Value) (cc' : Nat → Nat), e = .returned (.tuple #[ifv T' v, .nilIface]) ∧ Rch L S (met L X (f + 1) S v) T T' cc cc' ∧ St n w0 w' R LM s K X (met L X (f + 1) S v) (frz Q L K X (f + 1) t v) T' M' O' cc') := by
    intro e w' T' M' O' cc' hM he
    have hT' : T' r = w1.heap.size + 1 := by have := (hM.same r (by simp)).1; rwa [updF_at] at this
    refine ⟨T', M', O', cc', by rw [he, HIF.out, hT'], ⟨fun i hi => ?_, fun i hi hn => ?_⟩, by rw [HMt.out, HFr.out]; exact hM.st⟩
    · have hne : i ≠ r := fun e => hm (e ▸ hi)
      obtain ⟨y1, y2⟩ := hM.same i (by simp [hi])
      rw [updF_ne _ _ hne] at y1
      have y3 := y2 hne
      rw [updF_ne _ _ hne] at y3
      exact ⟨y1, y3⟩
    · by_cases e : i = r
      · rw [e]; exact hM.at_
      · rw [HMt.out] at hi
        exact hM.full i hi (by simp [hn, e])
  clear hp
  by_cases hq : 1 < Q r
  · rw [if_pos hq] at hlb
    obtain ⟨w5, m1, m2, m3, m4⟩ := (l1.same l4).update (lb : Int) (ptr (w1.heap.size + 1)) (by rw [hlb]; exact l3 _ (by rw [HT1.out.1]; omega))
    have HS5 : Hid (St n w0 w5 R LM s K X (S ++ [r]) (t.head Q r) (updF T r (w1.heap.size + 1)) (updF M r w1.heap.size) (updF O r (.slice none 0 0)) (updF cc r 0)) := by
      refine HS1.out.new hm ?_ ?_ ?_ ?_ ?_ (by omega) (Nat.le_refl _)
      · rw [HHl.out]; exact (m3.block _ k1.lt (fun e => hLR e.symm)).trans k1
      · exact (k2.mono (fun k _ h => Or.inl h)).trans (m3.mono (fun k _ h => Or.inr h))
      · refine lab_put (by rw [← HT1.out.2.1]; exact l2) (by rw [← HT1.out.1]; exact l3) hq ?_
        rw [← hlb]; exact m2
      · refine (m3.block _ (blk_lt k3) (fun e => ?_)).trans k3
        have := l1.lt; omega
      · refine k4.same (m3.block _ k4.lt (fun e => ?_))
        have := l1.lt; omega
    have hn0 : ¬ ((lb : Int) = 0) := by omega
    have hcl := (four_at k1).2.2.1
    rw [hw4] at hcl m1
    have hpr := rdPairs_any HGl HV (S ++ [r]) (bump Q0 r) (t.head Q r) r w5 _ _ _ _ hr (by simp) (updF_at _ _ _) HWm HPw HS5
    rw [updF_at] at hpr
    clear k1 k2 k3 k4 k5 l1 l2 l3 l4 m2 m3 m4 hlb hw4 HK1 HK2 HK3 HK4 hq
    go_wp2_with (go_at_call 132; refine hpr.mono ?_)
    clear hpr
    rintro e w6 ⟨rfl, T', M', O', cc', hM⟩
    have HM : Hid _ := hM
    clear hM
    go_wp2
    go_ret2
    exact HFin.out _ _ T' M' O' cc' HM.out rfl
  · rw [if_neg hq] at hlb
    have HS5 : Hid (St n w0 w4 R LM s K X (S ++ [r]) (t.head Q r) (updF T r (w1.heap.size + 1)) (updF M r w1.heap.size) (updF O r (.slice none 0 0)) (updF cc r 0)) := by
      refine HS1.out.new hm ?_ ?_ ?_ k3 k4 (by omega) (Nat.le_refl _)
      · rw [HHl.out]; exact k1
      · exact k2.mono (fun k _ h => Or.inl h)
      · exact lab_new HOk.out hm ⟨l, l1, by rw [← HT1.out.2.1]; exact l2, by rw [← HT1.out.1]; exact l3⟩ hq l4
    have hpr := rdPairs_any HGl HV (S ++ [r]) (bump Q0 r) (t.head Q r) r w4 _ _ _ _ hr (by simp) (updF_at _ _ _) HWm HPw HS5
    rw [updF_at] at hpr
    subst hlb
    clear k1 k2 k3 k4 k5 l1 l2 l3 l4 HK1 HK2 HK3 HK4 hq
    go_wp2_with fail
    rw [← hw4]
    refine hpr.mono ?_
    clear hpr hw4
    rintro e w6 ⟨rfl, T', M', O', cc', hM⟩
    have HM : Hid _ := hM
    clear hM
    go_wp2
    go_ret2
    exact HFin.out _ _ T' M' O' cc' HM.out rfl
end

end Go.Proofs.YtgflalfiopnmnaaGreatDoor

namespace Go.Proofs.YtgflalfiopnmnaaGreatDoor
open Go.RowKit Vl

section
variable {n : Nat} {Q L : Nat → Nat} {K X : Nat → Nat → V} {w0 : World} {R LM : Nat} {s : ByteArray} {f : Nat}

set_option maxHeartbeats 4000000 in
set_option maxRecDepth 100000 in
theorem labOld_any (HGl : Hid (Gl n L K X s)) (S : List Nat) (t : Ft) (v : V) (w : World) (T M : Nat → Nat) (O : Nat → Value) (cc : Nat → Nat) (lb : Nat) (h4 : v.k = 4) (hl : t.lab v.a.toNat = lb) (h0 : 0 < lb) (h1 : lb ≤ 999)
    (HP : Hid (Pre s (t.say (35 :: Lib.itoa (lb : Nat))).out)) (HA : Hid (After s (t.say (35 :: Lib.itoa (lb : Nat))).out.length)) (HS : Hid (St n w0 w R LM s K X S t T M O cc)) :
    Calls Tryz.prog 104 #[pR R] w fun e w' => e = .returned (.tuple #[ifv T v, .nilIface]) ∧ St n w0 w' R LM s K X S (t.say (35 :: Lib.itoa (lb : Nat))) T M O cc := by
  have hmax := HGl.out.max
  obtain ⟨p, hp⟩ : ∃ p, t.out.length = p := ⟨_, rfl⟩
  have hpr : Pre s (t.out ++ (35 :: Lib.itoa (lb : Nat))) := HP.out
  have HN : Hid (Nx s p (35 :: Lib.itoa (lb : Nat))) := by have := hpr.nx; rw [hp] at this; exact this
  have HZ : Hid ((t.say (35 :: Lib.itoa (lb : Nat))).out.length = p + 1 + (Lib.itoa (lb : Nat)).length) := by show _ = _; rw [say_len, hp, List.length_cons]; omega
  have hA := HA.out
  rw [HZ.out] at hA
  have hle := HP.out.le
  rw [HZ.out] at hle
  have HR0 : Hid (RdB w R s p LM S.length) := by have := HS.out.rd; rw [hp] at this; exact this
  have hlab := label_any R p LM S.length s lb w hmax h0 h1 HN hA.noD HR0
  obtain ⟨z, hz⟩ : ∃ z, p + 1 + (Lib.itoa (lb : Nat)).length = z := ⟨_, rfl⟩
  rw [hz] at hlab hA hle HZ
  have h61 : pk s z ≠ 61 := by unfold After at hA; omega
  obtain ⟨c0, c1, c2, c3, _, _⟩ := four_at HR0.out
  rw [ifv_tab h4]
  clear hz hA hpr HN hp HP HA
  go_enter Tryz.func104, Tryz.ntmps104
  go_wp2_with (go_at_call 133; refine hlab.mono ?_)
  try simp only [and_imp]
  rintro e w1 rfl hs1
  have HS1 : Hid (St n w0 w1 R LM s K X S (t.say (35 :: Lib.itoa (lb : Nat))) T M O cc) := HS.out.say _ (by rw [← say_len, HZ.out]; exact hs1)
  have HR1 : Hid (RdB w1 R s z LM S.length) := hs1.rd
  clear hlab hs1 c0 c1 c2 c3 HS HR0
  obtain ⟨c0, c1, c2, c3, _, _⟩ := four_at HR1.out
  obtain ⟨l, l1, l2, _⟩ := HS1.out.lab
  have hlk := l1.lookup (lb : Int)
  have hf : findI (lb : Int) l = some (ptr (T v.a.toNat)) := by have := l2 v.a.toNat (by show 0 < t.lab _; rw [hl]; exact h0); rw [show (t.say (35 :: Lib.itoa (lb : Nat))).lab v.a.toNat = lb from hl] at this; exact this
  rw [hf] at hlk
  clear l1 l2 hf
  have htn := take_no R z LM S.length s 61 w1 hle h61 HR1
  go_wp2_with (go_at_call 100; refine htn.mono ?_)
  try simp only [and_imp]
  rintro e w2 rfl hb2
  have HS2 : Hid (St n w0 w2 R LM s K X S (t.say (35 :: Lib.itoa (lb : Nat))) T M O cc) := HS1.out.still hb2
  clear htn hb2 hlk c0 c1 c2 c3
  go_wp2
  go_ret2
  exact ⟨rfl, HS2.out⟩

set_option maxHeartbeats 4000000 in
set_option maxRecDepth 100000 in
theorem labNew_any (HGl : Hid (Gl n L K X s)) (HV : Hid (VOk n Q L K X w0 R LM s f)) (S : List Nat) (Q0 : Nat → Nat) (t : Ft) (v : V) (w : World) (T M : Nat → Nat) (O : Nat → Value) (cc : Nat → Nat) (h4 : v.k = 4) (hm : v.a.toNat ∉ S) (hq : 1 < Q v.a.toNat)
    (HW : Hid (Wat n Q L X (f + 1) S Q0 t v)) (HP : Hid (Pre s (frz Q L K X (f + 1) t v).out)) (HS : Hid (St n w0 w R LM s K X S t T M O cc)) :
    Calls Tryz.prog 104 #[pR R] w fun e w' => ∃ (T' M' : Nat → Nat) (O' : Nat → Value) (cc' : Nat → Nat), e = .returned (.tuple #[ifv T' v, .nilIface]) ∧ Rch L S (met L X (f + 1) S v) T T' cc cc' ∧ St n w0 w' R LM s K X (met L X (f + 1) S v) (frz Q L K X (f + 1) t v) T' M' O' cc' := by
  have hmax := HGl.out.max
  obtain ⟨a0, a1⟩ := isV_tab HW.out.val h4
  have hN : t.N < 200 := by
    have := HW.out.ok.few
    have := HW.out.fit.less (show v.a.toNat < n by omega) hm
    have := HGl.out.len
    omega
  obtain ⟨lb, hlb⟩ : ∃ lb, t.N + 1 = lb := ⟨_, rfl⟩
  have hh := head_app (Q := Q) t v.a.toNat
  rw [if_pos hq, hlb] at hh
  have hpr : Pre s (t.out ++ ((35 :: Lib.itoa (lb : Nat)) ++ [61, 123])) := by
    have h1 := HP.out
    rw [wr_new h4 (HW.out.none hm)] at h1
    have h2 := (pre_mid h1 (Nat.zero_le _)).1
    rw [wrs_zero, hh] at h2
    simpa using h2
  obtain ⟨p, hp⟩ : ∃ p, t.out.length = p := ⟨_, rfl⟩
  have hnx := hpr.nx
  rw [hp] at hnx
  obtain ⟨hn1, hn2⟩ := hnx.app
  have HN : Hid (Nx s p (35 :: Lib.itoa (lb : Nat))) := hn1
  obtain ⟨z, hz⟩ : ∃ z, p + 1 + (Lib.itoa (lb : Nat)).length = z := ⟨_, rfl⟩
  have HZ : Hid ((t.say (35 :: Lib.itoa (lb : Nat))).out.length = z) := by show _ = _; rw [say_len, hp, List.length_cons]; omega
  rw [show p + (35 :: Lib.itoa (lb : Nat)).length = z by rw [List.length_cons]; omega] at hn2
  obtain ⟨h61, hz1, hn3⟩ := hn2.hd
  have h123 := hn3.pk
  have hz2 := hn3.hd.2.1
  have HE : Hid (NoD s (p + 1 + (Lib.itoa (lb : Nat)).length)) := by rw [hz]; show ¬ _; rw [h61]; decide
  have HR0 : Hid (RdB w R s p LM S.length) := by have := HS.out.rd; rw [hp] at this; exact this
  have hlab := label_any R p LM S.length s lb w hmax (by omega) (by omega) HN HE HR0
  rw [hz] at hlab
  have HT1 : Hid (((t.say (35 :: Lib.itoa (lb : Nat))).say [61]).N = t.N ∧ ((t.say (35 :: Lib.itoa (lb : Nat))).say [61]).lab = t.lab ∧ (t.head Q v.a.toNat).out = ((t.say (35 :: Lib.itoa (lb : Nat))).say [61]).out ++ [123]) := ⟨rfl, rfl, by rw [hh]; simp [Ft.say]⟩
  have hbz : Blk s (z + 1) 0 := blk0 (by omega) (by rw [h123]; decide)
  have HLB : Hid (lb = if 1 < Q v.a.toNat then t.N + 1 else 0) := by show _ = _; rw [if_pos hq]; exact hlb.symm
  obtain ⟨c0, c1, c2, c3, _, _⟩ := four_at HR0.out
  clear hz hn1 hn2 hn3 hnx hpr hh hp h123 a0 a1 hq
  go_enter Tryz.func104, Tryz.ntmps104
  go_wp2_with (go_at_call 133; refine hlab.mono ?_)
  try simp only [and_imp]
  rintro e w1 rfl hs1
  have HS1 : Hid (St n w0 w1 R LM s K X S (t.say (35 :: Lib.itoa (lb : Nat))) T M O cc) := HS.out.say _ (by rw [← say_len, HZ.out]; exact hs1)
  have HR1 : Hid (RdB w1 R s z LM S.length) := hs1.rd
  clear hlab hs1 c0 c1 c2 c3 HS HR0
  obtain ⟨c0, c1, c2, c3, _, _⟩ := four_at HR1.out
  obtain ⟨l, l1, _, l3⟩ := HS1.out.lab
  have hlk := l1.lookup (lb : Int)
  have hf : findI (lb : Int) l = none := l3 lb (by show t.N < lb; omega)
  rw [hf] at hlk
  clear l1 l3 hf
  have hty := take_yes R z LM S.length s 61 w1 hz1 hmax h61 HR1
  go_wp2_with (go_at_call 100; refine hty.mono ?_)
  try simp only [and_imp]
  rintro e w2 rfl hs2
  have HS2 : Hid (St n w0 w2 R LM s K X S ((t.say (35 :: Lib.itoa (lb : Nat))).say [61]) T M O cc) := HS1.out.say _ (by rw [HZ.out]; exact hs2)
  have HR2 : Hid (RdB w2 R s (z + 1) LM S.length) := hs2.rd
  clear hty hs2 hlk c0 c1 c2 c3 HS1 HR1
  go_wp2_with (go_at_call 62; refine (skip_any R (z + 1) LM S.length s 0 w2 hmax hbz HR2).mono ?_)
  try simp only [and_imp]
  rintro e w3 rfl hs3
  have HS3 : Hid (St n w0 w3 R LM s K X S ((t.say (35 :: Lib.itoa (lb : Nat))).say [61]) T M O cc) := HS2.out.stp (by rw [say_len, HZ.out]; exact hs3)
  clear hs3 HS2 HR2
  have htb := table_any HGl HV S Q0 t _ v w3 T M O cc lb _ h4 rfl hm HLB.out HW HT1 HP HS3
  go_wp2_with (go_at_call 103; refine htb.mono ?_)
  clear htb
  rintro e w4 ⟨T', M', O', cc', rfl, hR, hS4⟩
  have HR4 : Hid _ := hR
  have HS4 : Hid _ := hS4
  clear hR hS4
  go_wp2
  go_ret2
  exact ⟨T', M', O', cc', rfl, HR4.out, HS4.out⟩

set_option maxHeartbeats 4000000 in
set_option maxRecDepth 100000 in
theorem value_lab (p tb : Nat) (P : Value → World → Prop) (w : World) (hp : p < s.size) (hpk : pk s p = 35) (H : Hid (RdB w R s p LM tb)) (hc : ∀ w1, Below w.heap.size w w1 → Calls Tryz.prog 104 #[pR R] w1 fun e w' => ∃ x, e = .returned (.tuple #[x, .nilIface]) ∧ P x w') :
    Calls Tryz.prog 63 #[pR R] w fun e w' => ∃ x, e = .returned (.tuple #[x, .nilIface]) ∧ P x w' := by
  have hq := peek_any R p LM tb s w (by omega) H
  rw [hpk] at hq
  clear hpk
  go_enter Tryz.func63, Tryz.ntmps63
  go_wp2_with (go_at_call 101; refine hq.mono ?_)
  try simp only [and_imp]
  rintro e w1 rfl hb1
  have hc1 := hc w1 hb1
  clear hc hq hb1
  go_wp2_with (go_at_call 104; refine hc1.mono ?_)
  clear hc1
  rintro e w2 ⟨x, rfl, hP⟩
  have HP : Hid (P x w2) := hP
  clear hP
  go_wp2
  go_ret2
  exact ⟨x, rfl, HP.out⟩

set_option maxHeartbeats 4000000 in
set_option maxRecDepth 100000 in
theorem value_tab (p tb : Nat) (P : Value → World → Prop) (w : World) (hp : p < s.size) (hpk : pk s p = 123) (H : Hid (RdB w R s p LM tb)) (hc : ∀ w1, Below w.heap.size w w1 → Calls Tryz.prog 103 #[pR R, .int .i64 0] w1 fun e w' => ∃ x, e = .returned (.tuple #[x, .nilIface]) ∧ P x w') :
    Calls Tryz.prog 63 #[pR R] w fun e w' => ∃ x, e = .returned (.tuple #[x, .nilIface]) ∧ P x w' := by
  have hq := peek_any R p LM tb s w (by omega) H
  rw [hpk] at hq
  clear hpk
  go_enter Tryz.func63, Tryz.ntmps63
  go_wp2_with (go_at_call 101; refine hq.mono ?_)
  try simp only [and_imp]
  rintro e w1 rfl hb1
  have hc1 := hc w1 hb1
  clear hc hq hb1
  go_wp2_with (go_at_call 103; refine hc1.mono ?_)
  clear hc1
  rintro e w2 ⟨x, rfl, hP⟩
  have HP : Hid (P x w2) := hP
  clear hP
  go_wp2
  go_ret2
  exact ⟨x, rfl, HP.out⟩

theorem Rch.refl (L : Nat → Nat) (S : List Nat) (T cc : Nat → Nat) : Rch L S S T T cc cc := ⟨fun _ _ => ⟨rfl, rfl⟩, fun _ h h' => absurd h h'⟩

theorem vok_succ (HGl : Hid (Gl n L K X s)) (HV : Hid (VOk n Q L K X w0 R LM s f)) : VOk n Q L K X w0 R LM s (f + 1) := by
  intro S Q0 t v w T M O cc hW hs hP hA hS
  have hmax := HGl.out.max
  by_cases h4 : v.k = 4
  · obtain ⟨P, hPd⟩ : ∃ P : Value → World → Prop, P = fun x w' => ∃ (T' M' : Nat → Nat) (O' : Nat → Value) (cc' : Nat → Nat), x = ifv T' v ∧ Rch L S (met L X (f + 1) S v) T T' cc cc' ∧ St n w0 w' R LM s K X (met L X (f + 1) S v) (frz Q L K X (f + 1) t v) T' M' O' cc' := ⟨_, rfl⟩
    have fin : Calls Tryz.prog 63 #[pR R] w (fun e w' => ∃ x, e = .returned (.tuple #[x, .nilIface]) ∧ P x w') → Calls Tryz.prog 63 #[pR R] w fun e w' => ∃ (T' M' : Nat → Nat) (O' : Nat → Value) (cc' : Nat → Nat), e = .returned (.tuple #[ifv T' v, .nilIface]) ∧ Rch L S (met L X (f + 1) S v) T T' cc cc' ∧ St n w0 w' R LM s K X (met L X (f + 1) S v) (frz Q L K X (f + 1) t v) T' M' O' cc' := fun h => h.mono fun e w' => by
      rintro ⟨x, rfl, hx⟩
      rw [hPd] at hx
      obtain ⟨T', M', O', cc', rfl, h1, h2⟩ := hx
      exact ⟨T', M', O', cc', rfl, h1, h2⟩
    refine fin ?_
    by_cases hm : v.a.toNat ∈ S
    · have hl := hW.old h4 hm
      have e := wr_old (Q := Q) (L := L) (K := K) (X := X) (f := f) (t := t) h4 hl
      have hP' := hP
      have hA' := hA
      rw [e] at hP' hA'
      have hnx : Nx s t.out.length (35 :: Lib.itoa (t.lab v.a.toNat : Nat)) := Pre.nx hP'
      have hl9 : t.lab v.a.toNat ≤ 999 := by
        have := hW.ok.top v.a.toNat
        have := hW.ok.few
        have := hW.fit.len
        have := HGl.out.len
        omega
      refine value_lab t.out.length S.length P w hnx.hd.2.1 hnx.pk hS.rd fun w1 hb1 => ?_
      refine (labOld_any HGl S t v w1 T M O cc _ h4 rfl hl hl9 hP' hA' (hS.still hb1)).mono ?_
      rintro e' w2 ⟨rfl, h2⟩
      refine ⟨_, rfl, ?_⟩
      rw [hPd]
      refine ⟨T, M, O, cc, rfl, ?_, ?_⟩
      · rw [met_old (Or.inr hm)]; exact Rch.refl _ _ _ _
      · rw [met_old (Or.inr hm), e]; exact h2
    · have hpre : Pre s (t.head Q v.a.toNat).out := by
        have h1 := hP
        rw [wr_new h4 (hW.none hm)] at h1
        have h2 := (pre_mid h1 (Nat.zero_le _)).1
        rwa [wrs_zero] at h2
      rw [head_app] at hpre
      by_cases hq : 1 < Q v.a.toNat
      · rw [if_pos hq] at hpre
        have hnx := hpre.nx
        refine value_lab t.out.length S.length P w hnx.hd.2.1 hnx.pk hS.rd fun w1 hb1 => ?_
        refine (labNew_any HGl HV S Q0 t v w1 T M O cc h4 hm hq hW hP (hS.still hb1)).mono ?_
        rintro e' w2 ⟨T', M', O', cc', rfl, h1, h2⟩
        refine ⟨_, rfl, ?_⟩
        rw [hPd]
        exact ⟨T', M', O', cc', rfl, h1, h2⟩
      · rw [if_neg hq] at hpre
        have hnx := hpre.nx
        refine value_tab t.out.length S.length P w hnx.hd.2.1 hnx.pk hS.rd fun w1 hb1 => ?_
        refine (table_any HGl HV S Q0 t t v w1 T M O cc 0 _ h4 rfl hm (by rw [if_neg hq]) hW ⟨rfl, rfl, by rw [head_app, if_neg hq]; rfl⟩ hP (hS.still hb1)).mono ?_
        rintro e' w2 ⟨T', M', O', cc', rfl, h1, h2⟩
        refine ⟨_, rfl, ?_⟩
        rw [hPd]
        exact ⟨T', M', O', cc', rfl, h1, h2⟩
  · have hk : v.k = 0 ∨ v.k = 1 ∨ v.k = 2 ∨ v.k = 3 := by
      have := hW.val
      by_cases k0 : v.k = 0
      · exact Or.inl k0
      by_cases k1 : v.k = 1
      · exact Or.inr (Or.inl k1)
      by_cases k2 : v.k = 2
      · exact Or.inr (Or.inr (Or.inl k2))
      by_cases k3 : v.k = 3
      · exact Or.inr (Or.inr (Or.inr k3))
      · simp [isV, k0, k1, k2, k3, h4] at this
    rw [wr_no h4] at hP hA ⊢
    rw [met_old (Or.inl h4)]
    rw [say_len] at hA
    refine (valueP_any R t.out.length LM S.length s v T w hmax hk hs (Pre.nx hP) hA.noD hS.rd).mono ?_
    rintro e w' ⟨rfl, h⟩
    exact ⟨T, M, O, cc, rfl, Rch.refl _ _ _ _, hS.say _ h⟩

theorem vok_all (HGl : Hid (Gl n L K X s)) : ∀ f, VOk n Q L K X w0 R LM s f
  | 0 => fun S Q0 t v w T M O cc hW => by have := hW.fuel; omega
  | f + 1 => vok_succ HGl (vok_all HGl f)
end

end Go.Proofs.YtgflalfiopnmnaaGreatDoor

namespace Go.Proofs.YtgflalfiopnmnaaGreatDoor
open Go.RowKit Vl

section
variable {n : Nat} {L : Nat → Nat} {K X : Nat → Nat → V} {w0 w : World} {R LM : Nat} {s : ByteArray} {S : List Nat} {t : Ft} {T M : Nat → Nat} {O : Nat → Value} {cc : Nat → Nat}
theorem St.tbs (h : St n w0 w R LM s K X S t T M O cc) (hS : ∀ j, j < n → j ∈ S) (hc : ∀ j, j < n → cc j = L j) (hg : ∀ r, r < n → OkT n (L r) (K r) (X r)) : Tbs w n T M (fun _ => 0) L K X := by
  refine ⟨fun j hj => ?_, fun j hj => ?_, fun i j hi hj e => h.injT i (hS i hi) j (hS j hj) e, fun j hj l hl v hv => ?_⟩
  · have := h.tab j (hS j hj)
    rw [hc j hj] at this
    exact ⟨_, this.tab, owns_mono this.own (Nat.zero_le _)⟩
  · have := h.tab j (hS j hj)
    rw [hc j hj] at this
    refine ⟨_, this.map, fun c hc => ?_⟩
    unfold mp
    rw [find_js]
    have : (List.range (L j)).find? (fun i => eqV (K j i) (K j c)) = some c := by
      rw [List.find?_range_eq_some]
      refine ⟨?_, List.mem_range.2 hc, fun i hi => by rw [((hg j hj).all c hc).once i hi]; rfl⟩
      simp [eqV]
    rw [this]
    rfl
  · have := h.tab j (hS j hj)
    rw [hc j hj] at this
    rw [hl.uniq this.map, mp_none]
    intro c hc
    cases e : eqV (K j c) v with
    | false => rfl
    | true => exact absurd (eqV_iff.1 e) (hv c hc)
end

theorem idx_range {n i : Nat} (h : i < n) : (List.range n).idxOf i = i := by
  have hm : i ∈ List.range n := List.mem_range.2 h
  have h1 := List.idxOf_lt_length_of_mem hm
  have h2 := List.getElem_idxOf h1
  rw [List.getElem_range] at h2
  exact h2
theorem renum_range {n : Nat} {v : V} (h : isV n v = true) : renum (List.range n) v = v := by
  unfold renum
  split
  · rename_i h4
    obtain ⟨a0, a1⟩ := isV_tab h h4
    rw [idx_range (show v.a.toNat < n by omega)]
    obtain ⟨k, m, s, a⟩ := v
    simp only [V.mk.injEq, true_and]
    exact Int.toNat_of_nonneg a0
  · rfl
theorem range_getD {n i : Nat} (h : i < n) : (List.range n).getD i 0 = i := by
  rw [List.getD_eq_getElem?_getD, List.getElem?_range h]
  rfl

section
variable {n : Nat} {L : Nat → Nat} {K X : Nat → Nat → V} {w0 : World} {R LM : Nat} {s : ByteArray}

set_option maxHeartbeats 4000000 in
set_option maxRecDepth 100000 in
theorem frozen_any (HGl : Hid (Gl n L K X s)) (u : V) (hu : isV n u = true) (hsu : shortV u) (w : World) (T M : Nat → Nat) (O : Nat → Value) (cc : Nat → Nat) (HE : Hid (s.data.toList = (wrAll n u L K X).out)) (HS : Hid (St n w0 w R LM s K X [] ft0 T M O cc)) :
    Calls Tryz.prog 32 #[pR R] w fun e w' => ∃ (T' M' : Nat → Nat) (O' : Nat → Value) (cc' : Nat → Nat), e = .returned (.tuple #[ifv T' u, .nilIface]) ∧ (∀ i ∈ order n u L X, cc' i = L i) ∧ St n w0 w' R LM s K X (order n u L X) (wrAll n u L K X) T' M' O' cc' := by
  have hmax := HGl.out.max
  have hW := wat0 (L := L) (X := X) hu
  have hP : Pre s (frz (cntAll n u L X) L K X (n + 1) ft0 u).out := by
    show (wrAll n u L K X).out <+: _
    rw [HE.out]
    exact List.prefix_refl _
  have hz : (wrAll n u L K X).out.length = s.size := by rw [← HE.out, Array.length_toList]; rfl
  have hA : After s (frz (cntAll n u L X) L K X (n + 1) ft0 u).out.length := Or.inr (Or.inr (pk_end (by show _ ≤ (wrAll n u L K X).out.length; omega)))
  obtain ⟨b, a, eF, b32, b10⟩ := frz_first (K := K) hW
  have hP0 := hP
  rw [eF] at hP0
  have hnx : Nx s 0 (b :: a) := Pre.nx (o := []) hP0
  have hb0 : Blk s 0 0 := blk0 (Nat.zero_le _) ⟨fun e => b32 (by rw [hnx.pk] at e; exact UInt8.toNat_inj.1 e), fun e => b10 (by rw [hnx.pk] at e; exact UInt8.toNat_inj.1 e)⟩
  have HV : Hid (∀ w1, St n w0 w1 R LM s K X [] ft0 T M O cc → Calls Tryz.prog 63 #[pR R] w1 fun e w' => ∃ (T' M' : Nat → Nat) (O' : Nat → Value) (cc' : Nat → Nat), e = .returned (.tuple #[ifv T' u, .nilIface]) ∧ Rch L [] (order n u L X) T T' cc cc' ∧ St n w0 w' R LM s K X (order n u L X) (wrAll n u L K X) T' M' O' cc') := fun w1 h1 => vok_all HGl (n + 1) [] (fun _ => 0) ft0 u w1 T M O cc hW hsu hP hA h1
  have hbe : Blk s s.size 0 := blk0 (Nat.le_refl _) (by rw [pk_end (Nat.le_refl _)]; decide)
  clear hW hP hA eF hP0 hnx
  go_enter Tryz.func32, Tryz.ntmps32
  go_wp2_with (go_at_call 62; refine (skip_any R 0 LM 0 s 0 w hmax hb0 HS.out.rd).mono ?_)
  try simp only [and_imp]
  rintro e w1 rfl h1
  have HS1 : Hid (St n w0 w1 R LM s K X [] ft0 T M O cc) := HS.out.stp h1
  clear h1 HS hb0
  go_wp2_with (go_at_call 63; refine (HV.out w1 HS1.out).mono ?_)
  rintro e w2 ⟨T', M', O', cc', rfl, hR, hS2⟩
  have HS2 : Hid (St n w0 w2 R LM s K X (order n u L X) (wrAll n u L K X) T' M' O' cc') := hS2
  have HF : Hid (∀ i ∈ order n u L X, cc' i = L i) := fun i hi => hR.full i hi (by simp)
  have HR2 : Hid (RdB w2 R s s.size LM (order n u L X).length) := by have := hS2.rd; rw [hz] at this; exact this
  clear hR hS2 HV HS1
  obtain ⟨y, hy⟩ : ∃ y, ifv T' u = y := ⟨_, rfl⟩
  have HY : Hid (ifv T' u = y) := hy
  rw [hy]
  clear hy
  go_wp2_with (go_at_call 62; refine (skip_any R s.size LM (order n u L X).length s 0 w2 hmax hbe HR2).mono ?_)
  try simp only [and_imp]
  rintro e w3 rfl h3
  have HS3 : Hid (St n w0 w3 R LM s K X (order n u L X) (wrAll n u L K X) T' M' O' cc') := HS2.out.stp (by rw [hz]; exact h3)
  have HR3 : Hid (RdB w3 R s s.size LM (order n u L X).length) := h3.rd
  clear h3 HS2 HR2
  have hen := ended_any R s.size LM (order n u L X).length s w3 HR3
  rw [decide_eq_true rfl] at hen
  go_wp2_with (go_at_call 64; refine hen.mono ?_)
  try simp only [and_imp]
  rintro e w4 rfl hb4
  have HS4 : Hid (St n w0 w4 R LM s K X (order n u L X) (wrAll n u L K X) T' M' O' cc') := HS3.out.still hb4
  clear hen hb4 HS3 HR3
  go_wp2
  go_ret2
  exact ⟨T', M', O', cc', by rw [HY.out]; rfl, HF.out, HS4.out⟩
end

theorem cellsT7 {w : World} {B : Nat} {a b c d e f g : Value} {t : TypeId} (H : w.heap[B]? = some (.cells #[a, b, c, d, e, f, g] t (0, 0))) :
    w.cell? ⟨B, 0, none⟩ = some a ∧ w.cell? ⟨B, 1, none⟩ = some b ∧ w.cell? ⟨B, 2, none⟩ = some c ∧ w.cell? ⟨B, 3, none⟩ = some d ∧ w.cell? ⟨B, 4, none⟩ = some e ∧ w.cell? ⟨B, 5, none⟩ = some f ∧ w.cell? ⟨B, 6, none⟩ = some g ∧ ∀ i, w.frozen? ⟨B, i, none⟩ = false := by
  refine ⟨?_, ?_, ?_, ?_, ?_, ?_, ?_, fun i => ?_⟩ <;> simp [World.cell?, World.frozen?, H]
theorem putT7 {w : World} {B : Nat} {a b c d e f g : Value} {t : TypeId} (H : w.heap[B]? = some (.cells #[a, b, c, d, e, f, g] t (0, 0))) (a' b' c' d' e' f' g' : Value) :
    (((((((w.setCell ⟨B, 0, none⟩ a').setCell ⟨B, 1, none⟩ b').setCell ⟨B, 2, none⟩ c').setCell ⟨B, 3, none⟩ d').setCell ⟨B, 4, none⟩ e').setCell ⟨B, 5, none⟩ f').setCell ⟨B, 6, none⟩ g').heap[B]? = some (.cells #[a', b', c', d', e', f', g'] t (0, 0)) := by
  simp [World.setCell, Array.getElem?_modify, H]

set_option maxRecDepth 100000 in
theorem asNil_err (x : Value) (w : World) : Calls Tryz.prog 33 #[.nilIface, x] w fun e w' => e = .returned (.bool false) ∧ w' = w := by
  go_enter Tryz.func33, Tryz.ntmps33
  go_wp2
  go_ret
  exact ⟨rfl, rfl⟩

set_option maxHeartbeats 4000000 in
set_option maxRecDepth 100000 in
theorem thaw_any (n : Nat) (u : V) (L : Nat → Nat) (K X : Nat → Nat → V) (s : ByteArray) (w : World) (HOK : Hid (OkG n u L K X)) (HGl : Hid (Gl n L K X s)) (hsu : shortV u) (HE : Hid (s.data.toList = (wrAll n u L K X).out)) (HO : Hid (order n u L X = List.range n)) :
    Calls Tryz.prog 12 #[.string s] w fun e w' => (∃ (tv : Value) (PV : Nat → Value) (base : Nat), w.heap.size ≤ base ∧ e = .returned (.agg #[.bool true, .int .i64 0, .int .i64 u.k, .int .i64 u.n, .string u.s, .int .i64 u.a, tv]) ∧ OTab w' base tv n PV L K X) ∧ Below w.heap.size w w' := by
  have hmax := HGl.out.max
  have hn2 : ¬ ((20000 : Int) < (s.size : Int)) := by omega
  obtain ⟨w1, hw1⟩ : ∃ w1, w1 = w.alloc (.cells #[.bool false, .int .i64 0, .int .i64 0, .int .i64 0, .string ⟨#[]⟩, .int .i64 0, .slice none 0 0] 33) := ⟨_, rfl⟩
  have hs1 : w1.heap.size = w.heap.size + 1 := by rw [hw1]; simp
  have A3 := alloc3 w (.cells #[.bool false, .int .i64 0, .int .i64 0, .int .i64 0, .string ⟨#[]⟩, .int .i64 0, .slice none 0 0] 33) (.map #[] 0) (.cells #[.string s, .int .i64 0, .map (some (w.heap.size + 1)), .int .i64 0] 83)
  rw [← hw1] at A3
  obtain ⟨w3, hw3⟩ : ∃ w3, w3 = (w1.alloc (.map #[] 0)).alloc (.cells #[.string s, .int .i64 0, .map (some (w.heap.size + 1)), .int .i64 0] 83) := ⟨_, rfl⟩
  rw [← hw3] at A3
  obtain ⟨x0, x1, x2, x3, x4⟩ := A3
  have hb13 : Below w1.heap.size w1 w3 := by
    rw [hw3]
    exact ((Below.refl _ _).alloc (Nat.le_refl _) _).alloc (by simp) _
  have HS3 : Hid (St n w1 w3 (w.heap.size + 2) (w.heap.size + 1) s K X [] ft0 (fun _ => 0) (fun _ => 0) (fun _ => .nilIface) (fun _ => 0)) :=
    ⟨x2, ⟨[], ⟨#[], 0, x1, rfl⟩, fun i hi => absurd hi (Nat.lt_irrefl _), fun k _ => rfl⟩, fun r hr => (by cases hr), fun r hr => (by cases hr), fun i hi => (by cases hi), fun i hi => (by cases hi), fun i hi => (by cases hi), fun i hi => (by cases hi), ⟨by omega, by omega, fun i hi => by cases hi⟩, hb13⟩
  have HX1 : Hid (w1.heap[w.heap.size]? = some (.cells #[.bool false, .int .i64 0, .int .i64 0, .int .i64 0, .string ⟨#[]⟩, .int .i64 0, .slice none 0 0] 33 (0, 0))) := by show _ = _; rw [hw1]; exact heap_alloc_new _ _
  have HB1 : Hid (Below w.heap.size w w1) := by rw [hw1]; exact below_alloc _ _
  have hfr := frozen_any HGl u HOK.out.root hsu w3 _ _ _ _ HE HS3
  have hmm := @run_makeMap Tryz.prog
  clear x0 x1 x2 x3 x4 hb13
  go_enter Tryz.func12, Tryz.ntmps12
  go_wp2_with fail
  rw [← hw1, ← hw3]
  refine hfr.mono ?_
  clear hfr hmm hw1 hw3
  rintro e w4 ⟨T', M', O', cc', rfl, hF, hS4⟩
  have HS4 : Hid (St n w1 w4 (w.heap.size + 2) (w.heap.size + 1) s K X (order n u L X) (wrAll n u L K X) T' M' O' cc') := hS4
  have hb4 : Below w1.heap.size w1 w4 := hS4.bel
  have HX4 : Hid (w4.heap[w.heap.size]? = some (.cells #[.bool false, .int .i64 0, .int .i64 0, .int .i64 0, .string ⟨#[]⟩, .int .i64 0, .slice none 0 0] 33 (0, 0))) := (hb4.block _ (by omega)).trans HX1.out
  have HB4 : Hid (Below w.heap.size w w4) := HB1.out.trans (hb4.mono (by omega))
  have HTt : Hid (∀ j, j < n → w.heap.size < T' j) := fun j hj => by
    have := (hS4.hi.2.2 j (by rw [HO.out]; exact List.mem_range.2 hj)).1
    omega
  have HT4 : Hid (Tbs w4 n T' M' (fun _ => 0) L K X) := hS4.tbs (fun j hj => by rw [HO.out]; exact List.mem_range.2 hj) (fun j hj => hF j (by rw [HO.out]; exact List.mem_range.2 hj)) HGl.out.all
  clear hF hS4 hb4 HX1 HB1 HS3 HS4
  obtain ⟨w5, hw5⟩ : ∃ w5, w5 = w4.alloc (.cells #[.int .i64 0] 89) := ⟨_, rfl⟩
  have hb5 : Below w4.heap.size w4 w5 := by rw [hw5]; exact below_alloc _ _
  have HX5 : Hid (w5.heap[w.heap.size]? = some (.cells #[.bool false, .int .i64 0, .int .i64 0, .int .i64 0, .string ⟨#[]⟩, .int .i64 0, .slice none 0 0] 33 (0, 0))) := blkB HX4.out hb5
  have HB5 : Hid (Below w.heap.size w w5) := grw HB4.out hb5
  have HT5 : Hid (Tbs w5 n T' M' (fun _ => 0) L K X) := HT4.out.below hb5
  have hcan := canonical_any n T' M' (fun _ => 0) L K X u w5 (Nat.le_trans HGl.out.len (by omega)) (show ∀ r, r < n → L r ≤ 100 from fun r hr => (HGl.out.all r hr).len) HGl.out.good HOK.out.root HT5 (List.range n) HO
  rw [renum_range HOK.out.root] at hcan
  obtain ⟨y, hy⟩ : ∃ y, ifv T' u = y := ⟨_, rfl⟩
  rw [hy] at hcan ⊢
  clear hb5 HX4 HB4 HT4 hy
  go_wp2_with fail
  rw [← hw5]
  refine (asNil_err _ w5).mono ?_
  clear hw5
  rintro e w6 ⟨rfl, rfl⟩
  go_wp2_with (go_at_call 30; refine hcan.mono ?_)
  clear hcan
  rintro e w7 ⟨⟨tv, PV, base, hbs, rfl, hO7⟩, hon⟩
  have hs5 : w.heap.size < w6.heap.size := blk_lt HX5.out
  have HX7 : Hid (w7.heap[w.heap.size]? = some (.cells #[.bool false, .int .i64 0, .int .i64 0, .int .i64 0, .string ⟨#[]⟩, .int .i64 0, .slice none 0 0] 33 (0, 0))) := (hon.block _ hs5 (fun ⟨j, hj, e⟩ => by have := HTt.out j hj; omega)).trans HX5.out
  have HB7 : Hid (Below w.heap.size w w7) := HB5.out.trans (hon.toBelow (fun k ⟨j, hj, e⟩ => by have := HTt.out j hj; omega) HB5.out.size)
  rw [List.length_range] at hO7
  have HO7 : Hid (OTab w7 base tv n PV L K X) := hO7.congr (fun j hj => by unfold cL; rw [range_getD hj]) (fun j hj c hc => by
    unfold cK cX
    rw [range_getD hj, renum_range (HGl.out.good j hj c hc)]
    exact ⟨rfl, rfl⟩)
  obtain ⟨r0, r1, r2, r3, r4, r5, r6, r7⟩ := cellsT7 HX7.out
  obtain ⟨ta, tc, htv, _⟩ := owns_form HO7.out.own
  have hs7 : w.heap.size < w7.heap.size := blk_lt HX7.out
  subst htv
  clear hO7 hon HX5 HB5 HT5
  go_wp2
  have F := putT7 HX7.out (.bool true) (.int .i64 0) (.int .i64 u.k) (.int .i64 u.n) (.string u.s) (.int .i64 u.a) (.slice ta n tc)
  obtain ⟨wf, hwf⟩ : ∃ wf, wf = ((((((w7.setCell ⟨w.heap.size, 0, none⟩ (.bool true)).setCell ⟨w.heap.size, 1, none⟩ (.int .i64 0)).setCell ⟨w.heap.size, 2, none⟩ (.int .i64 u.k)).setCell ⟨w.heap.size, 3, none⟩ (.int .i64 u.n)).setCell ⟨w.heap.size, 4, none⟩ (.string u.s)).setCell ⟨w.heap.size, 5, none⟩ (.int .i64 u.a)).setCell ⟨w.heap.size, 6, none⟩ (.slice ta n tc) := ⟨_, rfl⟩
  have ho : Only (fun k => k = w.heap.size) w7 wf := by
    rw [hwf]
    exact (((((((Only.refl (fun k => k = w.heap.size) w7).set rfl _).set rfl _).set rfl _).set rfl _).set rfl _).set rfl _).set rfl _
  rw [← hwf] at F ⊢
  clear hwf
  obtain ⟨q0, q1, q2, q3, q4, q5, q6, _⟩ := cellsT7 F
  refine bodyPost_ret (v := .agg #[.bool true, .int .i64 0, .int .i64 u.k, .int .i64 u.n, .string u.s, .int .i64 u.a, .slice ta n tc]) (by simp [results, Tryz.results12, go_sem, q0, q1, q2, q3, q4, q5, q6]) rfl ⟨⟨_, PV, base, by omega, rfl, HO7.out.only ho (fun k hk e => by omega)⟩, ?_⟩
  exact HB7.out.trans (ho.toBelow (fun k e => by omega) (by omega))

end Go.Proofs.YtgflalfiopnmnaaGreatDoor

namespace Go.Proofs.YtgflalfiopnmnaaGreatDoor
open Go.RowKit Vl

theorem leads_keyed : Keyed 60 107 3 ptr IsB (fun a b => a == b) (.int .i64 0) where
  und := Tryz.underlying60
  eq := fun u v w hu hv => eq_ptr u v w hu hv 9999
  chk := fun em v w => by kernel_rfl
  now := ⟨_, Tryz.underlying107, fun u v => rfl⟩
  zero := fun w => by kernel_rfl

theorem find_at (v : Nat) (w : World) (hv : IsB w v) : ∀ (es : List MapEntry) (l : List (Nat × Value)) (i : Nat), (∀ p ∈ l, IsB w p.1) → es.map (fun e => (e.key, e.val)) = l.map (fun p => (ptr p.1, p.2)) → ∀ x, findG (fun a b => a == b) v l = some x →
    ∃ j, l[j]? = some (v, x) ∧ (∃ e, es[j]? = some e ∧ e.key = ptr v) ∧ (Instr.findAsking 107 (ptr v) es i).run Tryz.prog w = .ok (some (i + j, x)) w
  | [], [], i, _, _, x, h => by cases h
  | [], _ :: _, i, _, h, _, _ => by simp at h
  | _ :: _, [], i, _, h, _, _ => by simp at h
  | e :: es, (k, y) :: l, i, hl, h, x, hf => by
    simp only [List.map_cons, List.cons.injEq, Prod.mk.injEq] at h
    obtain ⟨⟨h1, h2⟩, h3⟩ := h
    have e1 : (Instr.findAsking 107 (ptr v) (e :: es) i).run Tryz.prog w = if (v == k) = true then .ok (some (i, e.val)) w else (Instr.findAsking 107 (ptr v) es (i + 1)).run Tryz.prog w := by
      conv => lhs; unfold Instr.findAsking
      rw [Sem.run_bind, h1, leads_keyed.eq _ _ _ hv (hl (k, y) (by simp))]
      simp only [Result.andThen_ok]
      cases (v == k) <;> simp
    unfold findG at hf
    by_cases he : (v == k) = true
    · rw [if_pos he] at hf e1
      obtain rfl : y = x := by cases hf; rfl
      obtain rfl : v = k := by simpa using he
      exact ⟨0, rfl, ⟨e, rfl, h1⟩, by rw [e1, h2]; rfl⟩
    · rw [if_neg he] at hf e1
      obtain ⟨j, a, ⟨e', b, b'⟩, c⟩ := find_at v w hv es l (i + 1) (fun p hp => hl p (List.mem_cons_of_mem _ hp)) h3 x hf
      refine ⟨j + 1, by simpa using a, ⟨e', by simpa using b, b'⟩, ?_⟩
      rw [e1, c, show i + 1 + j = i + (j + 1) by omega]

theorem findKey_at (v : Nat) (w : World) (hv : IsB w v) (es : List MapEntry) (l : List (Nat × Value)) (hl : ∀ p ∈ l, IsB w p.1) (h : es.map (fun e => (e.key, e.val)) = l.map (fun p => (ptr p.1, p.2))) (x : Value) (hf : findG (fun a b => a == b) v l = some x) :
    ∃ j, l[j]? = some (v, x) ∧ (∃ e, es[j]? = some e ∧ e.key = ptr v) ∧ (Instr.findKey 107 (ptr v) es).run Tryz.prog w = .ok (some (j, x)) w := by
  obtain ⟨j, a, b, c⟩ := find_at v w hv es l 0 hl h x hf
  refine ⟨j, a, b, ?_⟩
  obtain ⟨d, hd, hn⟩ := leads_keyed.now
  have e1 : (Instr.findKey 107 (ptr v) es).run Tryz.prog w = (Instr.findAsking 107 (ptr v) es 0).run Tryz.prog w := by
    unfold Instr.findKey
    rw [Sem.run_bind, run_underlying hd]
    simp only [Result.andThen_ok]
    cases es with
    | nil => rfl
    | cons e es =>
      cases l with
      | nil => simp at h
      | cons p l =>
        simp only [List.map_cons, List.cons.injEq, Prod.mk.injEq] at h
        have : Instr.findNow d (ptr v) (e :: es) 0 = none := by
          unfold Instr.findNow
          rw [h.1.1, hn]
        rw [this]
  rw [e1, c, Nat.zero_add]

abbrev tabL (T : Nat → Nat) (S : List Nat) (f : Nat → Value) : List (Nat × Value) := S.map fun j => (T j, f j)
theorem find_tab (T : Nat → Nat) (f : Nat → Value) (r : Nat) : ∀ S : List Nat, (∀ i ∈ S, T i = T r → i = r) → findG (fun a b => a == b) (T r) (tabL T S f) = if r ∈ S then some (f r) else none
  | [], _ => rfl
  | i :: S, h => by
    simp only [tabL, List.map_cons, findG]
    by_cases e : T r = T i
    · rw [if_pos (by simpa using e)]
      have := h i (by simp) e.symm
      subst this
      simp
    · rw [if_neg (by simpa using e)]
      have := find_tab T f r S (fun j hj => h j (by simp [hj]))
      unfold tabL at this
      rw [this]
      have hne : ¬ r = i := fun x => e (by rw [x])
      simp [hne]

theorem tab_set (T : Nat → Nat) (f : Nat → Value) (x : Value) {r : Nat} : ∀ (S : List Nat) (j : Nat), S.Nodup → S[j]? = some r → (tabL T S f).set j (T r, x) = tabL T S (fun i => if i = r then x else f i)
  | [], j, _, h => by simp at h
  | i :: S, 0, hn, h => by
    simp at h
    subst h
    obtain ⟨h1, _⟩ := List.nodup_cons.1 hn
    simp only [tabL, List.map_cons, List.set_cons_zero, if_true, List.cons.injEq, true_and]
    refine List.map_congr_left (fun k hk => ?_)
    have hne : k ≠ i := fun e => h1 (by rw [← e]; exact hk)
    rw [if_neg hne]
  | i :: S, j + 1, hn, h => by
    obtain ⟨h1, h2⟩ := List.nodup_cons.1 hn
    have hj : S[j]? = some r := by simpa using h
    have hne : i ≠ r := fun e => h1 (by rw [e]; exact List.mem_of_getElem? hj)
    have := tab_set T f x S j h2 hj
    simp only [tabL, List.map_cons, List.set_cons_succ, if_neg hne, List.cons.injEq, true_and] at this ⊢
    exact this

theorem stays (a : Nat) (w : World) : (Instr.keyThatStays (ptr a) (ptr a)).run Tryz.prog w = .ok (ptr a) w := by simp [Instr.keyThatStays, Instr.sameBits]

theorem MapG.reset {w : World} {M : Nat} {T : Nat → Nat} {S : List Nat} {f : Nat → Value} (h : MapG ptr w M (tabL T S f)) {r : Nat} (hr : r ∈ S) (hn : S.Nodup) (hi : ∀ i ∈ S, ∀ j ∈ S, T i = T j → i = j) (hB : ∀ i ∈ S, IsB w (T i)) (x : Value) :
    ∃ w', (Instr.mapUpdate 60 (.map (some M)) (ptr (T r)) x).run Tryz.prog w = .ok () w' ∧ MapG ptr w' M (tabL T S (fun i => if i = r then x else f i)) ∧ Only (fun k => k = M) w w' ∧ w'.heap.size = w.heap.size := by
  obtain ⟨es, clk, hb, hl⟩ := h
  have hf := find_tab T f r S (fun i hi' e => hi i hi' r hr e)
  rw [if_pos hr] at hf
  obtain ⟨j, a, ⟨e, b, b'⟩, c⟩ := findKey_at (T r) w (hB r hr) es.toList (tabL T S f) (fun p hp => by obtain ⟨i, hi', rfl⟩ := List.mem_map.1 hp; exact hB i hi') hl (f r) hf
  have hj : S[j]? = some r := by
    unfold tabL at a
    rw [List.getElem?_map] at a
    cases hs : S[j]? with
    | none => rw [hs] at a; cases a
    | some i =>
      rw [hs] at a
      simp only [Option.map_some, Option.some.injEq, Prod.mk.injEq] at a
      rw [hi i (List.mem_of_getElem? hs) r hr a.1]
  have bq : es[j]? = some e := by rw [← Array.getElem?_toList]; exact b
  refine ⟨{ w with heap := w.heap.setIfInBounds M (.map (es.modify j fun e => { e with key := ptr (T r), val := x }) clk) }, ?_, ?_, ?_, by simp⟩
  · simp [Instr.mapUpdate, run_underlying leads_keyed.und, MapKept.run_getObj_map hb, leads_keyed.chk, c, Result.andThen, MapKept.run_setObj_map _ hb, bq, b', stays]
  · refine ⟨_, _, by rw [Array.getElem?_setIfInBounds_self_of_lt (blk_lt hb)], ?_⟩
    have e2 : (es.modify j fun e => { e with key := ptr (T r), val := x }).toList.map (fun e => (e.key, e.val)) = (es.toList.map (fun e => (e.key, e.val))).set j (ptr (T r), x) := by
      apply List.ext_getElem?
      intro i
      rw [List.getElem?_map, Array.getElem?_toList, Array.getElem?_modify, List.getElem?_set, List.getElem?_map, Array.getElem?_toList]
      by_cases hij : j = i
      · subst hij
        rw [if_pos rfl, if_pos rfl, bq]
        simp
        exact (Array.getElem?_eq_some_iff.1 bq).1
      · rw [if_neg hij, if_neg hij]
    rw [e2, hl, ← tab_set T f x S j hn hj]
    rw [List.map_set]
  · refine ⟨rfl, rfl, rfl, by simp, fun k _ hk => ?_⟩
    show (w.heap.setIfInBounds M _)[k]? = w.heap[k]?
    rw [Array.getElem?_setIfInBounds_ne (fun e => hk e.symm)]

end Go.Proofs.YtgflalfiopnmnaaGreatDoor
