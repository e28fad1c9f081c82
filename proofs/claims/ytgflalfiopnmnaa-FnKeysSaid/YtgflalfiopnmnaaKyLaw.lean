import Derived.Test.YtgflalfiopnmnaaRows
import Derived.Test.YtgflalfiopnmnaaKyDk
import Derived.Test.YtgflalfiopnmnaaVlOrd2
import Derived.ProofKit
import Derived.OpenShut
import Derived.ShutString
import Derived.ChangeOld
namespace Go.Proofs.Ytgflalfiopnmnaa
open Go.RowKit Vl
open Go.ChangeShapes Go.WideShapes Go.ChangeAt

theorem eql_val (u v : V) (w : World) :
    (binOp .eql 24 (.agg #[.int .i64 u.k, .int .i64 u.n, .string u.s, .int .i64 u.a]) (.agg #[.int .i64 v.k, .int .i64 v.n, .string v.s, .int .i64 v.a])).run Try.prog w = .ok (.bool (eqV u v)) w := by
  go_simp
  by_cases h1 : u.k = v.k <;> by_cases h2 : u.n = v.n <;> by_cases h3 : u.s.toList = v.s.toList <;> by_cases h4 : u.a = v.a <;> simp [eqV, h1, h2, h3, h4]

theorem two_vals (w : World) (u v : V) : ValAt ((w.alloc (Obj.cells #[.int .i64 u.k, .int .i64 u.n, .string u.s, .int .i64 u.a] 24)).alloc (Obj.cells #[.int .i64 v.k, .int .i64 v.n, .string v.s, .int .i64 v.a] 24)) w.heap.size 0 u.k u.n u.s u.a ∧
    ValAt ((w.alloc (Obj.cells #[.int .i64 u.k, .int .i64 u.n, .string u.s, .int .i64 u.a] 24)).alloc (Obj.cells #[.int .i64 v.k, .int .i64 v.n, .string v.s, .int .i64 v.a] 24)) (w.heap.size + 1) 0 v.k v.n v.s v.a := by
  refine ⟨(ValAt.new w u.k u.n u.s u.a).below ((Below.refl _ _).alloc (Nat.le_refl _) _), ?_⟩
  have := ValAt.new (w.alloc (Obj.cells #[.int .i64 u.k, .int .i64 u.n, .string u.s, .int .i64 u.a] 24)) v.k v.n v.s v.a
  have e : (w.alloc (Obj.cells #[.int .i64 u.k, .int .i64 u.n, .string u.s, .int .i64 u.a] 24)).heap.size = w.heap.size + 1 := by simp
  rw [e] at this
  exact this

set_option maxHeartbeats 1000000 in
set_option maxRecDepth 100000 in
theorem keysLaw (ca : Option Addr) (cl cc cb co : Nat) (w : World) (hB : ByteR w ca cl cb co) (hcl : cl ≤ 9223372036854775807) :
    Calls Try.prog 5 #[.slice ca cl cc] w fun e w' => e = .returned (.bool true) ∧ Below w.heap.size w w' := by
  by_cases hl : 1048576 < cl
  · clear hB
    go_enter Try.func5, Try.ntmps5
    go_wp2
    go_ret
    exact ⟨rfl, Below.refl _ _⟩
  have hd := drawKo_any (cc := cc) w hB (by omega)
  clear hB
  go_enter Try.func5, Try.ntmps5
  go_wp2_with fail
  refine hd.mono ?_
  clear hd
  rintro e w1 ⟨⟨u, v, hu, hv, rfl⟩, hb1⟩
  have HW1 : Hid (Below w.heap.size w ((w1.alloc (Obj.cells #[.int .i64 u.k, .int .i64 u.n, .string u.s, .int .i64 u.a] 24)).alloc (Obj.cells #[.int .i64 v.k, .int .i64 v.n, .string v.s, .int .i64 v.a] 24))) := grw hb1 (boxes w1 u v)
  have HV1 : Hid _ := two_vals w1 u v
  clear hb1
  have hlu : u.s.size ≤ 9223372036854775807 := by omega
  have hlv : v.s.size ≤ 9223372036854775807 := by omega
  go_wp2_with fail
  refine (implKo_any u v _).mono ?_
  rintro e w2 ⟨rfl, hb2⟩
  have HW2 : Hid (Below w.heap.size w w2) := grw HW1.out hb2
  have HA2 : Hid (ValAt w2 w1.heap.size 0 u.k u.n u.s u.a) := HV1.out.1.below hb2
  have HB2 : Hid (ValAt w2 (w1.heap.size + 1) 0 v.k v.n v.s v.a) := HV1.out.2.below hb2
  clear hb2 HV1 HW1
  have c0 := HA2.out.1; have c1 := HA2.out.2.1; have c2 := HA2.out.2.2.1; have c3 := HA2.out.2.2.2
  have d0 := HB2.out.1; have d1 := HB2.out.2.1; have d2 := HB2.out.2.2.1; have d3 := HB2.out.2.2.2
  simp only [Nat.zero_add] at c1 c2 c3 d1 d2 d3
  go_wp2_with fail
  refine (specKo_any u v _ hlu hlv).mono ?_
  rintro e w3 ⟨rfl, hb3⟩
  have HW3 : Hid (Below w.heap.size w w3) := grw HW2.out hb3
  have HA3 : Hid (ValAt w3 w1.heap.size 0 u.k u.n u.s u.a) := HA2.out.below hb3
  have HB3 : Hid (ValAt w3 (w1.heap.size + 1) 0 v.k v.n v.s v.a) := HB2.out.below hb3
  clear hb3 HW2 HA2 HB2 c0 c1 c2 c3 d0 d1 d2 d3
  have c0 := HA3.out.1; have c1 := HA3.out.2.1; have c2 := HA3.out.2.2.1; have c3 := HA3.out.2.2.2
  have d0 := HB3.out.1; have d1 := HB3.out.2.1; have d2 := HB3.out.2.2.1; have d3 := HB3.out.2.2.2
  simp only [Nat.zero_add] at c1 c2 c3 d1 d2 d3
  have hne : (ko u v != ko u v) = false := by simp
  obtain ⟨o, ho⟩ : ∃ o, ko u v = o := ⟨_, rfl⟩
  have hkk := implKo_any v u w3
  by_cases h2 : o = 2
  · subst h2
    have h2' := ko_two ho
    rw [h2'] at hkk
    rw [ho] at hne ⊢
    clear ho h2'
    go_wp2_with fail
    refine hkk.mono ?_
    clear hkk
    rintro e w4 ⟨rfl, hb4⟩
    have HW4 : Hid (Below w.heap.size w w4) := grw HW3.out hb4
    clear hb4
    go_wp2
    go_ret
    exact ⟨rfl, HW4.out⟩
  · have hne2 : ko u v ≠ 2 := by rw [ho]; exact h2
    have hneg := ko_neg hne2
    have hzero := ko_zero hne2
    rw [ho] at hneg hzero hne ⊢
    rw [hneg] at hkk
    have hb : -1 ≤ o ∧ o ≤ 1 := by
      rw [← ho]
      unfold ko at hne2 ⊢
      split
      · split
        · omega
        · split <;> omega
      · rename_i h; rw [if_neg h] at hne2; exact absurd rfl hne2
    have ho2 : (o == 2) = false := by simpa using h2
    have heq := eql_val u v
    rw [← hzero] at heq
    clear ho hneg hzero hne2 h2
    go_wp2_with fail
    refine hkk.mono ?_
    clear hkk
    rintro e w4 ⟨rfl, hb4⟩
    have HW4 : Hid (Below w.heap.size w w4) := grw HW3.out hb4
    have HA4 : Hid (ValAt w4 w1.heap.size 0 u.k u.n u.s u.a) := HA3.out.below hb4
    have HB4 : Hid (ValAt w4 (w1.heap.size + 1) 0 v.k v.n v.s v.a) := HB3.out.below hb4
    clear hb4 HW3 HA3 HB3 c0 c1 c2 c3 d0 d1 d2 d3
    have c0 := HA4.out.1; have c1 := HA4.out.2.1; have c2 := HA4.out.2.2.1; have c3 := HA4.out.2.2.2
    have d0 := HB4.out.1; have d1 := HB4.out.2.1; have d2 := HB4.out.2.2.1; have d3 := HB4.out.2.2.2
    simp only [Nat.zero_add] at c1 c2 c3 d1 d2 d3
    have hoo : ((-o) == (-o)) = true := by simp
    have hbb : ((o == 0) == (o == 0)) = true := by simp
    go_wp2
    go_ret
    exact ⟨rfl, HW4.out⟩

theorem laidOutK : laidOutB Try.prog = true := by kernel_rfl
theorem ownK : ownKnob Try.prog.godebug = none := by kernel_rfl
theorem Try.cellsU8 : Try.prog.cellsOf 5 = 1 := by kernel_rfl

theorem addr_plus (b o i : Nat) : Addr.add ⟨b, o, none⟩ i = ⟨b, o + i, none⟩ := by
  unfold Addr.add
  by_cases h : i = 0 <;> simp [h]

/-- What a law is told of its bytes. -/
theorem byteR_of {w : World} {x : Addr} {len cap : Nat} {zs : List Int} (hl : len ≤ cap) (hm : cap ≤ maxLen) (hz : zs.length = cap) (hcell : ∀ i, i < zs.length → w.cell? (x.add i) = some (.int .u8 (zs.getD i 0))) (hw : ∀ n ∈ zs, (Lit.int .u8 n).wf = true) :
    ∃ b off, ByteR w (some x) len b off ∧ len ≤ 9223372036854775807 := by
  unfold maxLen at hm
  by_cases h1 : 0 < len
  · have hc := hcell 0 (by omega)
    have hx : x = ⟨x.block, x.off, none⟩ := by
      obtain ⟨b, off, spot⟩ := x
      have hspot : spot = none := by simpa [Addr.add] using World.cell?_spot hc
      subst hspot
      rfl
    refine ⟨x.block, x.off, fun i hi => ⟨by rw [← hx], ?_⟩, by omega⟩
    have hmem : zs.getD i 0 ∈ zs := by
      have : i < zs.length := by omega
      simp [List.getD, List.getElem?_eq_getElem this]
    have hb : 0 ≤ zs.getD i 0 ∧ zs.getD i 0 ≤ 255 := by simpa [Lit.wf, IntKind.min, IntKind.max, IntKind.signed, IntKind.bits] using hw _ hmem
    refine ⟨(zs.getD i 0).toNat, by omega, ?_⟩
    have e : ((zs.getD i 0).toNat : Int) = zs.getD i 0 := Int.toNat_of_nonneg hb.1
    have hci := hcell i (by omega)
    rw [hx, addr_plus] at hci
    rw [e]
    exact hci
  · exact ⟨0, 0, fun i hi => by omega, by omega⟩

set_option maxRecDepth 100000 in
theorem keysLifted (os : Os) (started : os.Started) (H : Type) (enc : TypeId × Value → H) :
    ReturnsInHanded {} Try.checked os 5 .any (Rows.fnKeysSpec.pre6 enc Try.prog Try.f5 Rows.fnKeysRow.domain false) (Rows.fnKeysSpec.post enc Try.prog Try.f5 false true false false) := by
  refine returnsInHanded_of_change (C := Try.checked) ownK started (by kernel_rfl) Try.func5
    (ChangeSpec.witness6 (enc := enc) (C := Try.checked) false ⟨#[], #[.slice none 0 0], []⟩ 8 (by kernel_rfl) (by kernel_rfl) (by kernel_rfl) (by kernel_rfl)) ?_
  intro W base args ds gs before hval0 hW hcnd _
  have hval : ∀ (j : Nat) t v, Try.f5.params[j]? = some t → args[j]? = some v → Value.okWide Try.prog W .any base t v := hval0
  have hW' := hW
  obtain ⟨p, q, hA0, hV, rfl, hfz, hnd⟩ := hW
  have hA : DataW.TrodAll enc Try.prog W 0 (fun _ => true) true Try.f5.params.toList args.toList ds p := hA0
  rw [Try.params5] at hA hval
  obtain ⟨v0, vs0, d0, ds0, p0, q0, hargs, rfl, rfl, h0, r0⟩ := trodAll_cons hA
  obtain ⟨rfl, rfl, rfl⟩ := trodAll_nil r0
  obtain rfl : args = #[v0] := by cases args; simp_all
  obtain ⟨rfl, rfl⟩ := trodVars_none hV
  obtain ⟨a0, len0, cap0, rfl⟩ := okWide_slice Try.underlying22 (hval 0 22 v0 rfl rfl)
  have k0 := h0
  have lt0 : ∀ x ∈ p0, x.block < W.heap.size := by obtain ⟨m, hm⟩ := k0; exact DataW.trod_lt m _ _ _ hm
  obtain ⟨b, off, hB⟩ : ∃ b off, ByteR W a0 len0 b off ∧ len0 ≤ 9223372036854775807 := by
    obtain ⟨fuel, hf⟩ := h0
    rcases open_ints Try.underlying22 Try.underlying5 Try.cellsU8 hf with ⟨hcs, _⟩ | ⟨x, l, c, zs, hcs, _, hl, hm, hz, _, hcell, hwz⟩
    · simp [Value.cells] at hcs
      obtain ⟨rfl, rfl, rfl⟩ := hcs
      exact ⟨0, 0, fun i hi => by omega, by omega⟩
    · simp [Value.cells] at hcs
      obtain ⟨rfl, rfl, rfl⟩ := hcs
      exact byteR_of hl hm (by simpa using hz) hcell hwz
  clear hA0 hval0
  refine (keysLaw a0 len0 cap0 b off W hB.1 hB.2).mono fun e W' ⟨he, bel⟩ => ?_
  subst he
  exact ⟨_, rfl, _, _, _, [], _, [], hW', trodAll_mk1 (shut_bool Try.underlying4 _), (trodAll_cons_mk (Below.trod laidOutK (by kernel_rfl) (of_decide_eq_true (by kernel_rfl)) k0 bel lt0) trodAll_mk0), rfl, bel.frame _, fun h => by cases h⟩

theorem keys_holds : Rows.FnKeysSaid :=
  OpenClaim.holds_of_wide 5 Try.f5 rfl rfl rfl rfl rfl rfl rfl ⟨rfl, rfl, rfl, rfl, rfl⟩ rfl rfl rfl rfl rfl (by kernel_rfl) Try.func5 (by kernel_rfl)
    (of_decide_eq_true (by kernel_rfl)) (by unfold Func.isWrapper; first | (rw [if_pos (by decide +kernel)]; kernel_rfl) | (rw [if_neg (by decide +kernel)]; exact ⟨rfl, rfl⟩))
    (fun os started H enc _ => keysLifted os started H enc)
#print axioms keys_holds

end Go.Proofs.Ytgflalfiopnmnaa
