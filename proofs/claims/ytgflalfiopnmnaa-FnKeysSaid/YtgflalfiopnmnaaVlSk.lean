import Derived.Test.YtgflalfiopnmnaaVlLess
import Derived.Test.YtgflalfiopnmnaaVlKo
namespace Go.Proofs.Ytgflalfiopnmnaa
open Go.RowKit Vl

/-- 'spec.KeyOrder'. -/
theorem specKo_any (u v : V) (w : World) (hu : u.s.size ≤ 9223372036854775807) (hv : v.s.size ≤ 9223372036854775807) :
    Calls Try.prog 26 #[.agg #[.int .i64 u.k, .int .i64 u.n, .string u.s, .int .i64 u.a], .agg #[.int .i64 v.k, .int .i64 v.n, .string v.s, .int .i64 v.a]] w fun e w' => e = .returned (.int .i64 (ko u v)) ∧ Below w.heap.size w w' := by
  have hb0 : Hid _ := boxes w u v
  have HA : Hid (ValAt ((w.alloc (Obj.cells #[.int .i64 u.k, .int .i64 u.n, .string u.s, .int .i64 u.a] 24)).alloc (Obj.cells #[.int .i64 v.k, .int .i64 v.n, .string v.s, .int .i64 v.a] 24)) w.heap.size 0 u.k u.n u.s u.a) :=
    (ValAt.new w u.k u.n u.s u.a).below ((Below.refl _ _).alloc (Nat.le_refl _) _)
  have HB : Hid (ValAt ((w.alloc (Obj.cells #[.int .i64 u.k, .int .i64 u.n, .string u.s, .int .i64 u.a] 24)).alloc (Obj.cells #[.int .i64 v.k, .int .i64 v.n, .string v.s, .int .i64 v.a] 24)) (w.heap.size + 1) 0 v.k v.n v.s v.a) := by
    have := ValAt.new (w.alloc (Obj.cells #[.int .i64 u.k, .int .i64 u.n, .string u.s, .int .i64 u.a] 24)) v.k v.n v.s v.a
    have e : (w.alloc (Obj.cells #[.int .i64 u.k, .int .i64 u.n, .string u.s, .int .i64 u.a] 24)).heap.size = w.heap.size + 1 := by simp
    rw [e] at this
    exact this
  by_cases h1 : isK u = true
  · by_cases h2 : isK v = true
    · obtain ⟨b1, E1⟩ : ∃ b, Hid (less u v = b) := ⟨_, rfl⟩
      obtain ⟨b2, E2⟩ : ∃ b, Hid (less v u = b) := ⟨_, rfl⟩
      have HK : Hid (ko u v = if b1 then -1 else if b2 then 1 else 0) := show ko u v = _ by unfold ko; rw [h1, h2, E1.out, E2.out]; rfl
      rw [HK.out]
      go_enter Try.func26, Try.ntmps26
      go_wp2_with fail
      refine (l2key_any u _).mono ?_
      rintro e w1 ⟨rfl, hb1⟩
      rw [h1]
      have HA1 : Hid (ValAt w1 w.heap.size 0 u.k u.n u.s u.a) := HA.out.below hb1
      have HB1 : Hid (ValAt w1 (w.heap.size + 1) 0 v.k v.n v.s v.a) := HB.out.below hb1
      have HW1 : Hid (Below w.heap.size w w1) := grw hb0.out hb1
      clear hb1 HA HB hb0
      have d0 := HB1.out.1; have d1 := HB1.out.2.1; have d2 := HB1.out.2.2.1; have d3 := HB1.out.2.2.2
      simp only [Nat.zero_add] at d1 d2 d3
      go_wp2_with fail
      refine (l2key_any v _).mono ?_
      rintro e w2 ⟨rfl, hb2⟩
      rw [h2]
      have HA2 : Hid (ValAt w2 w.heap.size 0 u.k u.n u.s u.a) := HA1.out.below hb2
      have HB2 : Hid (ValAt w2 (w.heap.size + 1) 0 v.k v.n v.s v.a) := HB1.out.below hb2
      have HW2 : Hid (Below w.heap.size w w2) := grw HW1.out hb2
      clear hb2 HA1 HB1 HW1 HK h1 h2 d0 d1 d2 d3
      have d0 := HB2.out.1; have d1 := HB2.out.2.1; have d2 := HB2.out.2.2.1; have d3 := HB2.out.2.2.2
      have c0 := HA2.out.1; have c1 := HA2.out.2.1; have c2 := HA2.out.2.2.1; have c3 := HA2.out.2.2.2
      simp only [Nat.zero_add] at d1 d2 d3 c1 c2 c3
      go_wp2_with fail
      refine (l2less_any u v _ hu).mono ?_
      rintro e w3 ⟨rfl, hb3⟩
      have HA3 : Hid (ValAt w3 w.heap.size 0 u.k u.n u.s u.a) := HA2.out.below hb3
      have HB3 : Hid (ValAt w3 (w.heap.size + 1) 0 v.k v.n v.s v.a) := HB2.out.below hb3
      have HW3 : Hid (Below w.heap.size w w3) := grw HW2.out hb3
      clear hb3 HA2 HB2 HW2 d0 d1 d2 d3 c0 c1 c2 c3
      rw [E1.out]
      cases b1
      · have d0 := HB3.out.1; have d1 := HB3.out.2.1; have d2 := HB3.out.2.2.1; have d3 := HB3.out.2.2.2
        have c0 := HA3.out.1; have c1 := HA3.out.2.1; have c2 := HA3.out.2.2.1; have c3 := HA3.out.2.2.2
        simp only [Nat.zero_add] at d1 d2 d3 c1 c2 c3
        go_wp2_with fail
        refine (l2less_any v u _ hv).mono ?_
        rintro e w4 ⟨rfl, hb4⟩
        have HW4 : Hid (Below w.heap.size w w4) := grw HW3.out hb4
        clear hb4 HA3 HB3 HW3 d0 d1 d2 d3 c0 c1 c2 c3
        rw [E2.out]
        cases b2
        all_goals
          go_wp2
          go_ret
          exact ⟨rfl, HW4.out⟩
      · go_wp2
        go_ret
        exact ⟨rfl, HW3.out⟩
    · have h2' : isK v = false := by simpa using h2
      have HK : Hid (ko u v = 2) := show ko u v = 2 by unfold ko; rw [h2', Bool.and_false, if_neg (by simp)]
      rw [HK.out]
      go_enter Try.func26, Try.ntmps26
      go_wp2_with fail
      refine (l2key_any u _).mono ?_
      rintro e w1 ⟨rfl, hb1⟩
      rw [h1]
      have HB1 : Hid (ValAt w1 (w.heap.size + 1) 0 v.k v.n v.s v.a) := HB.out.below hb1
      have hB1 : Hid (Below w.heap.size w w1) := grw hb0.out hb1
      clear hb1
      have d0 := HB1.out.1; have d1 := HB1.out.2.1; have d2 := HB1.out.2.2.1; have d3 := HB1.out.2.2.2
      simp only [Nat.zero_add] at d1 d2 d3
      go_wp2_with fail
      refine (l2key_any v _).mono ?_
      rintro e w2 ⟨rfl, hb2⟩
      rw [h2']
      go_wp2
      go_ret
      exact ⟨rfl, grw hB1.out hb2⟩
  · have h1' : isK u = false := by simpa using h1
    have HK : Hid (ko u v = 2) := show ko u v = 2 by unfold ko; rw [h1', Bool.false_and, if_neg (by simp)]
    rw [HK.out]
    go_enter Try.func26, Try.ntmps26
    go_wp2_with fail
    refine (l2key_any u _).mono ?_
    rintro e w1 ⟨rfl, hb1⟩
    rw [h1']
    go_wp2
    go_ret
    exact ⟨rfl, grw hb0.out hb1⟩

end Go.Proofs.Ytgflalfiopnmnaa
