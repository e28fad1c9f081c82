import Derived.Test.YtgflalfiopnmnaaRows
import Derived.Test.YtgflalfiopnmnaaRkCopy
import Derived.Test.YtgflalfiopnmnaaRkImpl2
import Derived.Test.YtgflalfiopnmnaaRkEq
import Derived.ProofKit
import Derived.OpenShut
import Derived.ShutString
import Derived.ChangeOld
import Derived.Deep.Matrix
namespace Go.Proofs.Ytgflalfiopnmnaa
open Go.RowKit Rk
open Go.ChangeShapes Go.WideShapes Go.ChangeAt

set_option maxHeartbeats 1000000 in
theorem rankedLaw (ga : Option Addr) (gb go n cp : Nat) (A : Nat → Option Addr) (L C RB RO : Nat → Nat) (M : Nat → Nat → Int) (w : World) (hga : 0 < n → ga = some ⟨gb, go, none⟩)
    (hn : n ≤ 9223372036854775807) (hL : ∀ r, r < n → L r ≤ 9223372036854775807) (HM : Hid (MatR w gb go n A L C RB RO M)) :
    Calls Try.prog 6 #[.slice ga n cp] w fun e w' => e = .returned (.bool true) ∧ Below w.heap.size w w' := by
  go_enter Try.func6, Try.ntmps6
  go_wp2_with fail
  refine (szSS_any ga gb go n cp A L C RB RO M w hga hn hL HM.out).mono ?_
  rintro e w0 ⟨k, rfl, hw0, hk⟩
  subst hw0
  by_cases hk0 : k < 0
  · clear hk
    go_wp2
    go_ret
    exact ⟨rfl, Below.refl _ _⟩
  · obtain ⟨hn', hL'⟩ := hk (by omega)
    have HL : Hid (∀ r, r < n → L r ≤ 1048576) := hL'
    clear hk hL hn hL'
    go_wp2_with fail
    refine (toSS_any ga gb go n cp A L C RB RO M w0 hga hn' HL.out HM.out).mono ?_
    rintro e w1 ⟨rfl, h1⟩
    have H1 : Hid (Rows2 w0 w1 n L n M) := h1
    clear h1
    go_wp2_with fail
    refine (specRk_any _ _ 0 n n _ L _ _ _ M w1 (fun _ => rfl) hn' HL.out H1.out.mat).mono ?_
    rintro e w1' ⟨⟨b, rfl, hb⟩, hw1⟩
    subst hw1
    have HMb : Hid (MatR w1' gb go n A L C RB RO M) := HM.out.below H1.out.bel
    have HB1 : Hid (Below w0.heap.size w0 w1') := H1.out.bel
    clear H1
    go_wp2_with fail
    refine (toSS_any ga gb go n cp A L C RB RO M w1' hga hn' HL.out HMb.out).mono ?_
    rintro e w2 ⟨rfl, h2⟩
    have H2 : Hid (Rows2 w1' w2 n L n M) := h2
    clear h2
    go_wp2_with fail
    refine (implRk_any _ _ 0 n n _ L _ _ _ M w2 (fun _ => rfl) hn' HL.out H2.out.mat).mono ?_
    rintro e w3 ⟨⟨b', rfl, hb'⟩, hbel3⟩
    have hbb : b' = b := by
      cases b <;> cases b' <;> simp_all
    clear hb hb'
    subst hbb
    have HX : Hid (MatR w3 w1'.heap.size 0 n (fun j => some ⟨w1'.heap.size + 1 + j, 0, none⟩) L L (fun j => w1'.heap.size + 1 + j) (fun _ => 0) M) := H2.out.mat.below hbel3
    have HMc : Hid (MatR w3 gb go n A L C RB RO M) := (HMb.out.below H2.out.bel).below hbel3
    have HB3 : Hid (Below w0.heap.size w0 w3) := (HB1.out.trans (H2.out.bel.mono HB1.out.size)).trans (hbel3.mono (Nat.le_trans HB1.out.size H2.out.bel.size))
    clear H2 hbel3 HMb HB1
    go_wp2_with fail
    refine (toSS_any ga gb go n cp A L C RB RO M w3 hga hn' HL.out HMc.out).mono ?_
    rintro e w4 ⟨rfl, h4⟩
    have H4 : Hid (Rows2 w3 w4 n L n M) := h4
    clear h4
    go_wp2_with fail
    refine (eqSS_same _ _ _ 0 _ 0 n n n _ _ L _ _ _ _ _ _ M w4 (fun _ => rfl) (fun _ => rfl) hn' HL.out (HX.out.below H4.out.bel) H4.out.mat).mono ?_
    rintro e w5 ⟨rfl, m, rfl⟩
    go_wp2
    go_ret
    exact ⟨rfl, below_drewN (HB3.out.trans (H4.out.bel.mono HB3.out.size)) m⟩

theorem laidOutR : laidOutB Try.prog = true := by kernel_rfl
theorem ownR : ownKnob Try.prog.godebug = none := by kernel_rfl
theorem Try.cells32 : Try.prog.cellsOf 32 = 1 := by kernel_rfl
theorem Try.cells3 : Try.prog.cellsOf 3 = 1 := by kernel_rfl

/-- An address whose cells are there is plain. -/
theorem plain_addr {w : World} {a : Addr} {v : Value} (h : w.cell? (a.add 0) = some v) : a = ⟨a.block, a.off, none⟩ := by
  obtain ⟨b, off, spot⟩ := a
  have hspot : spot = none := by simpa [Addr.add] using World.cell?_spot h
  subst hspot
  rfl

theorem addr_add (b o i : Nat) : Addr.add ⟨b, o, none⟩ i = ⟨b, o + i, none⟩ := by
  unfold Addr.add
  by_cases h : i = 0 <;> simp [h]

/-- What 'open_int_rows' gives, as the walk wants it. -/
theorem mat_of {w : World} {a : Addr} {len cap : Nat} {A : Nat → Option Addr} {L C : Nat → Nat} {Z : Nat → List Int} (hl : len ≤ cap)
    (h : ∀ r, r < cap → w.cell? (a.add r) = some (.slice (A r) (L r) (C r)) ∧ L r ≤ C r ∧ C r ≤ maxLen ∧ (Z r).length = C r ∧ (∀ n ∈ Z r, (Lit.int .i64 n).wf = true) ∧ (A r = none → C r = 0) ∧
        ∀ a', A r = some a' → 0 ≤ a'.block ∧ ∀ c, c < C r → w.cell? (a'.add c) = some (.int .i64 ((Z r).getD c 0))) :
    (0 < len → some a = some ⟨a.block, a.off, none⟩) ∧ MatR w a.block a.off len A L C (fun r => ((A r).getD a).block) (fun r => ((A r).getD a).off) (fun r c => (Z r).getD c 0) := by
  have ha : 0 < len → a = ⟨a.block, a.off, none⟩ := fun h0 => plain_addr (h 0 (by omega)).1
  refine ⟨fun h0 => by rw [← ha h0], fun r hr => ?_, fun r hr c hc => ?_⟩
  · have e := (h r (by omega)).1
    rw [ha (by omega), addr_add] at e
    exact e
  · obtain ⟨e1, e2, e3, e4, e5, e6, e7⟩ := h r (by omega)
    cases hA : A r with
    | none => have := e6 hA; omega
    | some a' =>
      obtain ⟨_, e8⟩ := e7 a' hA
      have hp := plain_addr (e8 0 (by omega))
      simp only [Option.getD_some]
      refine ⟨by rw [← hp], ?_⟩
      have e := e8 c (by omega)
      rw [hp, addr_add] at e
      exact e

set_option maxRecDepth 100000 in
theorem rankedLifted (os : Os) (started : os.Started) (H : Type) (enc : TypeId × Value → H) :
    ReturnsInHanded {} Try.checked os 6 .any (Rows.fnExactRankedSpec.pre6 enc Try.prog Try.f6 Rows.fnExactRankedRow.domain false) (Rows.fnExactRankedSpec.post enc Try.prog Try.f6 false true false false) := by
  refine returnsInHanded_of_change (C := Try.checked) ownR started (by kernel_rfl) Try.func6
    (ChangeSpec.witness6 (enc := enc) (C := Try.checked) false ⟨#[], #[.slice none 0 0], []⟩ 8 (by kernel_rfl) (by kernel_rfl) (by kernel_rfl) (by kernel_rfl)) ?_
  intro W base args ds gs before hval0 hW hcnd _
  have hval : ∀ (j : Nat) t v, Try.f6.params[j]? = some t → args[j]? = some v → Value.okWide Try.prog W .any base t v := hval0
  have hW' := hW
  obtain ⟨p, q, hA0, hV, rfl, hfz, hnd⟩ := hW
  have hA : DataW.TrodAll enc Try.prog W 0 (fun _ => true) true Try.f6.params.toList args.toList ds p := hA0
  rw [Try.params6] at hA hval
  obtain ⟨v0, vs0, d0, ds0, p0, q0, hargs, rfl, rfl, h0, r0⟩ := trodAll_cons hA
  obtain ⟨rfl, rfl, rfl⟩ := trodAll_nil r0
  obtain rfl : args = #[v0] := by cases args; simp_all
  obtain ⟨rfl, rfl⟩ := trodVars_none hV
  obtain ⟨a0, len0, cap0, rfl⟩ := okWide_slice Try.underlying45 (hval 0 45 v0 rfl rfl)
  have k0 := h0
  have lt0 : ∀ x ∈ p0, x.block < W.heap.size := by obtain ⟨m, hm⟩ := k0; exact DataW.trod_lt m _ _ _ hm
  obtain ⟨gb, go, A, L, C, RB, RO, M, hga, hn, hL, hM⟩ : ∃ (gb go : Nat) (A : Nat → Option Addr) (L C RB RO : Nat → Nat) (M : Nat → Nat → Int), (0 < len0 → a0 = some ⟨gb, go, none⟩) ∧ len0 ≤ 9223372036854775807 ∧ (∀ r, r < len0 → L r ≤ 9223372036854775807) ∧ MatR W gb go len0 A L C RB RO M := by
    obtain ⟨fuel, hf⟩ := h0
    rcases Deep.open_int_rows Try.underlying45 Try.underlying32 Try.underlying3 Try.cells32 Try.cells3 hf with ⟨hcs, _⟩ | ⟨a, len, cap, A, L, C, Z, hcs, _, hl, hm, _, hr⟩
    · simp [Value.cells] at hcs
      obtain ⟨rfl, rfl, rfl⟩ := hcs
      exact ⟨0, 0, fun _ => none, fun _ => 0, fun _ => 0, fun _ => 0, fun _ => 0, fun _ _ => 0, fun h => by omega, by omega, fun r hr => by omega, ⟨fun r hr => by omega, fun r hr => by omega⟩⟩
    · simp [Value.cells] at hcs
      obtain ⟨rfl, rfl, rfl⟩ := hcs
      have R := mat_of hl hr
      unfold maxLen at hm hr
      exact ⟨_, _, A, L, C, _, _, _, R.1, by omega, fun r h => by have := hr r (by omega); omega, R.2⟩
  clear hA0 hval0
  refine (rankedLaw a0 gb go len0 cap0 A L C RB RO M W hga hn hL hM).mono fun e W' ⟨he, bel⟩ => ?_
  subst he
  exact ⟨_, rfl, _, _, _, [], _, [], hW', trodAll_mk1 (shut_bool Try.underlying4 _), (trodAll_cons_mk (Below.trod laidOutR (by kernel_rfl) (of_decide_eq_true (by kernel_rfl)) k0 bel lt0) trodAll_mk0), rfl, bel.frame _, fun h => by cases h⟩

theorem ranked_holds : Rows.FnExactRankedSaid :=
  OpenClaim.holds_of_wide 6 Try.f6 rfl rfl rfl rfl rfl rfl rfl ⟨rfl, rfl, rfl, rfl, rfl⟩ rfl rfl rfl rfl rfl (by kernel_rfl) Try.func6 (by kernel_rfl)
    (of_decide_eq_true (by kernel_rfl)) (by unfold Func.isWrapper; first | (rw [if_pos (by decide +kernel)]; kernel_rfl) | (rw [if_neg (by decide +kernel)]; exact ⟨rfl, rfl⟩))
    (fun os started H enc _ => rankedLifted os started H enc)
#print axioms ranked_holds
end Go.Proofs.Ytgflalfiopnmnaa
