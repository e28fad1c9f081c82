import Derived.Test.YtgflalfiopnmnabRows
import Derived.Test.YtgflalfiopnmnabVlTo
import Derived.ProofKit
import Derived.OpenShut
import Derived.ShutString
import Derived.ChangeOld
import Derived.Lib.SmallJoins
namespace Go.Proofs.Ytgflalfiopnmnab
open Go.RowKit Vl
open Go.ChangeShapes Go.WideShapes Go.ChangeAt Go.Joins

theorem ValAt.newL (w : World) (k n : Int) (s : ByteArray) (a : Int) : ValAt (w.alloc (Obj.cells #[.int .i64 k, .int .i64 n, .string s, .int .i64 a] 23)) w.heap.size 0 k n s a := by
  refine ⟨?_, ?_, ?_, ?_⟩ <;> simp [World.cell?_alloc_new]

theorem keepK {w0 w w' : World} {b b' : Nat} {u v : V}
    (h : (w.cell? ⟨b, 0, none⟩ = some (.int .i64 u.k) ∧ w.cell? ⟨b, 1, none⟩ = some (.int .i64 u.n) ∧ w.cell? ⟨b, 2, none⟩ = some (.string u.s) ∧ w.cell? ⟨b, 3, none⟩ = some (.int .i64 u.a)) ∧ (w.cell? ⟨b', 0, none⟩ = some (.int .i64 v.k) ∧ w.cell? ⟨b', 1, none⟩ = some (.int .i64 v.n) ∧ w.cell? ⟨b', 2, none⟩ = some (.string v.s) ∧ w.cell? ⟨b', 3, none⟩ = some (.int .i64 v.a)) ∧ Hid (Below w0.heap.size w0 w)) (hb : Below w.heap.size w w') :
    (w'.cell? ⟨b, 0, none⟩ = some (.int .i64 u.k) ∧ w'.cell? ⟨b, 1, none⟩ = some (.int .i64 u.n) ∧ w'.cell? ⟨b, 2, none⟩ = some (.string u.s) ∧ w'.cell? ⟨b, 3, none⟩ = some (.int .i64 u.a)) ∧ (w'.cell? ⟨b', 0, none⟩ = some (.int .i64 v.k) ∧ w'.cell? ⟨b', 1, none⟩ = some (.int .i64 v.n) ∧ w'.cell? ⟨b', 2, none⟩ = some (.string v.s) ∧ w'.cell? ⟨b', 3, none⟩ = some (.int .i64 v.a)) ∧ Hid (Below w0.heap.size w0 w') :=
  ⟨ValAt.below (o := 0) h.1 hb, ValAt.below (o := 0) h.2.1 hb, grw h.2.2.out hb⟩

set_option maxHeartbeats 1000000 in
set_option maxRecDepth 100000 in
theorem keyLaw (u v : V) (w : World) (hu : u.s.size ≤ 9223372036854775807) (hv : v.s.size ≤ 9223372036854775807) :
    Calls Try.prog 4 #[.agg #[.int .i64 u.k, .int .i64 u.n, .string u.s, .int .i64 u.a], .agg #[.int .i64 v.k, .int .i64 v.n, .string v.s, .int .i64 v.a]] w fun e w' => e = .returned (.bool true) ∧ Below w.heap.size w w' := by
  have hb0 : Hid (Below w.heap.size w ((w.alloc (Obj.cells #[.int .i64 u.k, .int .i64 u.n, .string u.s, .int .i64 u.a] 23)).alloc (Obj.cells #[.int .i64 v.k, .int .i64 v.n, .string v.s, .int .i64 v.a] 23))) := ((Below.refl _ _).alloc (Nat.le_refl _) _).alloc (by simp) _
  have HA : Hid (ValAt ((w.alloc (Obj.cells #[.int .i64 u.k, .int .i64 u.n, .string u.s, .int .i64 u.a] 23)).alloc (Obj.cells #[.int .i64 v.k, .int .i64 v.n, .string v.s, .int .i64 v.a] 23)) w.heap.size 0 u.k u.n u.s u.a) :=
    (ValAt.newL w u.k u.n u.s u.a).below ((Below.refl _ _).alloc (Nat.le_refl _) _)
  have HB : Hid (ValAt ((w.alloc (Obj.cells #[.int .i64 u.k, .int .i64 u.n, .string u.s, .int .i64 u.a] 23)).alloc (Obj.cells #[.int .i64 v.k, .int .i64 v.n, .string v.s, .int .i64 v.a] 23)) (w.heap.size + 1) 0 v.k v.n v.s v.a) := by
    have := ValAt.newL (w.alloc (Obj.cells #[.int .i64 u.k, .int .i64 u.n, .string u.s, .int .i64 u.a] 23)) v.k v.n v.s v.a
    have e : (w.alloc (Obj.cells #[.int .i64 u.k, .int .i64 u.n, .string u.s, .int .i64 u.a] 23)).heap.size = w.heap.size + 1 := by simp
    rw [e] at this
    exact this
  go_enter Try.func4, Try.ntmps4
  go_wp2_with fail
  refine (szVal_any u _ _ (by omega) (by omega) hu).mono ?_
  rintro e w1 ⟨rfl, hb1⟩
  have HA1 : Hid (ValAt w1 w.heap.size 0 u.k u.n u.s u.a) := HA.out.below hb1
  have HB1 : Hid (ValAt w1 (w.heap.size + 1) 0 v.k v.n v.s v.a) := HB.out.below hb1
  have HW1 : Hid (Below w.heap.size w w1) := grw hb0.out hb1
  clear hb0 HA HB hb1
  by_cases h1 : (1048576 : Int) < u.s.size
  · rw [if_pos h1]
    go_wp2
    go_ret
    exact ⟨rfl, HW1.out⟩
  · rw [if_neg h1]
    have hn : ¬ (1048576 : Int) - u.s.size < 0 := by omega
    have d0 := HB1.out.1; have d1 := HB1.out.2.1; have d2 := HB1.out.2.2.1; have d3 := HB1.out.2.2.2
    simp only [Nat.zero_add] at d1 d2 d3
    go_wp2_with fail
    refine (szVal_any v _ _ (by omega) (by omega) hv).mono ?_
    rintro e w2 ⟨rfl, hb2⟩
    have HA2 : Hid (ValAt w2 w.heap.size 0 u.k u.n u.s u.a) := HA1.out.below hb2
    have HB2 : Hid (ValAt w2 (w.heap.size + 1) 0 v.k v.n v.s v.a) := HB1.out.below hb2
    have HW2 : Hid (Below w.heap.size w w2) := grw HW1.out hb2
    clear HW1 HA1 HB1 hb2 d0 d1 d2 d3
    by_cases h2 : (1048576 : Int) - u.s.size < v.s.size
    · rw [if_pos h2]
      go_wp2
      go_ret
      exact ⟨rfl, HW2.out⟩
    · rw [if_neg h2]
      have hn2 : ¬ (1048576 : Int) - u.s.size - v.s.size < 0 := by omega
      have d0 := HB2.out.1; have d1 := HB2.out.2.1; have d2 := HB2.out.2.2.1; have d3 := HB2.out.2.2.2
      have c0 := HA2.out.1; have c1 := HA2.out.2.1; have c2 := HA2.out.2.2.1; have c3 := HA2.out.2.2.2
      simp only [Nat.zero_add] at d1 d2 d3 c1 c2 c3
      go_wp2
      go_region_held3 (fun w' => (w'.cell? ⟨w.heap.size, 0, none⟩ = some (.int .i64 u.k) ∧ w'.cell? ⟨w.heap.size, 1, none⟩ = some (.int .i64 u.n) ∧ w'.cell? ⟨w.heap.size, 2, none⟩ = some (.string u.s) ∧ w'.cell? ⟨w.heap.size, 3, none⟩ = some (.int .i64 u.a)) ∧ (w'.cell? ⟨w.heap.size + 1, 0, none⟩ = some (.int .i64 v.k) ∧ w'.cell? ⟨w.heap.size + 1, 1, none⟩ = some (.int .i64 v.n) ∧ w'.cell? ⟨w.heap.size + 1, 2, none⟩ = some (.string v.s) ∧ w'.cell? ⟨w.heap.size + 1, 3, none⟩ = some (.int .i64 v.a)) ∧ Hid (Below w.heap.size w w'))
        (first | exact keepK ‹_ ∧ _› hbC | exact keepK ‹_ ∧ _› hbB | exact keepK ‹_ ∧ _› hbA | exact ⟨⟨c0, c1, c2, c3⟩, ⟨d0, d1, d2, d3⟩, HW2.out.drew⟩)
        (first
          | (go_at_call_of 18 u.s; refine (toVal_any u _).mono ?_; rintro e wA ⟨rfl, hbA⟩)
          | (go_at_call_of 18 v.s; refine (toVal_any v _).mono ?_; rintro e wB ⟨rfl, hbB⟩)
          | (go_at_call 17; refine (specKo_any u v _ hu hv).mono ?_; rintro e wC ⟨rfl, hbC⟩))
      rename_i hS
      have c0' := hS.1.1; have c1' := hS.1.2.1; have c2' := hS.1.2.2.1; have c3' := hS.1.2.2.2
      have d0' := hS.2.1.1; have d1' := hS.2.1.2.1; have d2' := hS.2.1.2.2.1; have d3' := hS.2.1.2.2.2
      have HWC := hS.2.2
      clear hS HA2 HB2 HW2 c0 c1 c2 c3 d0 d1 d2 d3 hbA hbB hbC h1 h2 hn hn2
      go_wp2
      go_region_held3 (fun w' => (w'.cell? ⟨w.heap.size, 0, none⟩ = some (.int .i64 u.k) ∧ w'.cell? ⟨w.heap.size, 1, none⟩ = some (.int .i64 u.n) ∧ w'.cell? ⟨w.heap.size, 2, none⟩ = some (.string u.s) ∧ w'.cell? ⟨w.heap.size, 3, none⟩ = some (.int .i64 u.a)) ∧ (w'.cell? ⟨w.heap.size + 1, 0, none⟩ = some (.int .i64 v.k) ∧ w'.cell? ⟨w.heap.size + 1, 1, none⟩ = some (.int .i64 v.n) ∧ w'.cell? ⟨w.heap.size + 1, 2, none⟩ = some (.string v.s) ∧ w'.cell? ⟨w.heap.size + 1, 3, none⟩ = some (.int .i64 v.a)) ∧ Hid (Below w.heap.size w w'))
        (first | exact keepK ‹_ ∧ _› hbF | exact keepK ‹_ ∧ _› hbE | exact keepK ‹_ ∧ _› hbD | exact ⟨⟨c0', c1', c2', c3'⟩, ⟨d0', d1', d2', d3'⟩, HWC.out.drew⟩)
        (first
          | (go_at_call_of 18 u.s; refine (toVal_any u _).mono ?_; rintro e wD ⟨rfl, hbD⟩)
          | (go_at_call_of 18 v.s; refine (toVal_any v _).mono ?_; rintro e wE ⟨rfl, hbE⟩)
          | (go_at_call 19; refine (implKo_any u v _).mono ?_; rintro e wF ⟨rfl, hbF⟩))
      rename_i hS
      have HWF := hS.2.2
      clear hS HWC c0' c1' c2' c3' d0' d1' d2' d3' hbD hbE hbF
      have hne : (ko u v != ko u v) = false := by simp
      go_wp2
      go_ret
      exact ⟨rfl, HWF.out⟩

theorem laidOutR : laidOutB Try.prog = true := by kernel_rfl
theorem ownR : ownKnob Try.prog.godebug = none := by kernel_rfl
theorem Try.cells23 : Try.prog.cellsOf 23 = 4 := by kernel_rfl

set_option maxRecDepth 100000 in
/-- A value that came in. -/
theorem open_val {H : Type} {enc : TypeId × Value → H} {W : World} {base : Nat} {sp : Nat → Bool} {held : Bool} {r : Reach} {b0 : Nat} {x : Value} {d : DataW H} {p : List MemPlace} (hv : Value.okWide Try.prog W r b0 23 x) (h : DataW.Trod enc Try.prog W base sp held 23 x d p) :
    ∃ v : V, x = .agg #[.int .i64 v.k, .int .i64 v.n, .string v.s, .int .i64 v.a] ∧ v.s.size ≤ 9223372036854775807 := by
  obtain ⟨c0, c1, c2, c3, y0, y1, y2, y3, m, rfl, _, _, h0, h1, h2, h3⟩ := open_agg4 Try.underlying23 (by kernel_rfl) Try.cells23 hv h
  obtain ⟨k, e0, _, _⟩ := DataW.trod_int Try.underlying3 h0
  obtain ⟨n, e1, _, _⟩ := DataW.trod_int Try.underlying2 h1
  obtain ⟨s, e2, _, hs⟩ := DataW.trod_string Try.underlying9 h2
  obtain ⟨a, e3, _, _⟩ := DataW.trod_int Try.underlying3 h3
  simp at e0 e1 e2 e3
  subst e0 e1 e2 e3
  unfold maxLen at hs
  exact ⟨⟨k, n, s, a⟩, rfl, by show s.size ≤ _; omega⟩

set_option maxRecDepth 100000 in
theorem keyLifted (os : Os) (started : os.Started) (H : Type) (enc : TypeId × Value → H) :
    ReturnsInHanded {} Try.checked os 4 .any (Rows.fnExactKeyOrderSpec.pre6 enc Try.prog Try.f4 Rows.fnExactKeyOrderRow.domain false) (Rows.fnExactKeyOrderSpec.post enc Try.prog Try.f4 false true false false) := by
  refine returnsInHanded_of_change (C := Try.checked) ownR started (by kernel_rfl) Try.func4
    (ChangeSpec.witness6 (enc := enc) (C := Try.checked) false ⟨#[], #[.agg #[.int .i64 0, .int .i64 0, .string ⟨#[]⟩, .int .i64 0], .agg #[.int .i64 0, .int .i64 0, .string ⟨#[]⟩, .int .i64 0]], []⟩ 8 (by kernel_rfl) (by kernel_rfl) (by kernel_rfl) (by kernel_rfl)) ?_
  intro W base args ds gs before hval0 hW hcnd _
  have hval : ∀ (j : Nat) t v, Try.f4.params[j]? = some t → args[j]? = some v → Value.okWide Try.prog W .any base t v := hval0
  have hW' := hW
  obtain ⟨p, q, hA0, hV, rfl, hfz, hnd⟩ := hW
  have hA : DataW.TrodAll enc Try.prog W 0 (fun _ => true) true Try.f4.params.toList args.toList ds p := hA0
  rw [Try.params4] at hA hval
  obtain ⟨v0, vs0, d0, ds0, p0, q0, hargs, rfl, rfl, h0, r0⟩ := trodAll_cons hA
  obtain ⟨v1, vs1, d1, ds1, p1, q1, hargs1, rfl, rfl, h1, r1⟩ := trodAll_cons r0
  obtain ⟨rfl, rfl, rfl⟩ := trodAll_nil r1
  subst hargs1
  obtain rfl : args = #[v0, v1] := by cases args; simp_all
  obtain ⟨rfl, rfl⟩ := trodVars_none hV
  have k0 := h0
  have k1 := h1
  have lt0 : ∀ x ∈ p0, x.block < W.heap.size := by obtain ⟨m, hm⟩ := k0; exact DataW.trod_lt m _ _ _ hm
  have lt1 : ∀ x ∈ p1, x.block < W.heap.size := by obtain ⟨m, hm⟩ := k1; exact DataW.trod_lt m _ _ _ hm
  obtain ⟨u, rfl, hu⟩ := open_val (hval 0 23 v0 rfl rfl) h0
  obtain ⟨v, rfl, hv⟩ := open_val (hval 1 23 v1 rfl rfl) h1
  clear hA0 hval0
  refine (keyLaw u v W hu hv).mono fun e W' ⟨he, bel⟩ => ?_
  subst he
  exact ⟨_, rfl, _, _, _, [], _, [], hW', trodAll_mk1 (shut_bool Try.underlying4 _), (trodAll_cons_mk (Below.trod laidOutR (by kernel_rfl) (of_decide_eq_true (by kernel_rfl)) k0 bel lt0) (trodAll_cons_mk (Below.trod laidOutR (by kernel_rfl) (of_decide_eq_true (by kernel_rfl)) k1 bel lt1) trodAll_mk0)), rfl, bel.frame _, fun h => by cases h⟩

theorem keyOrder_holds : Rows.FnExactKeyOrderSaid :=
  OpenClaim.holds_of_wide 4 Try.f4 rfl rfl rfl rfl rfl rfl rfl ⟨rfl, rfl, rfl, rfl, rfl⟩ rfl rfl rfl rfl rfl (by kernel_rfl) Try.func4 (by kernel_rfl)
    (of_decide_eq_true (by kernel_rfl)) (by unfold Func.isWrapper; first | (rw [if_pos (by decide +kernel)]; kernel_rfl) | (rw [if_neg (by decide +kernel)]; exact ⟨rfl, rfl⟩))
    (fun os started H enc _ => keyLifted os started H enc)
#print axioms keyOrder_holds

end Go.Proofs.Ytgflalfiopnmnab
