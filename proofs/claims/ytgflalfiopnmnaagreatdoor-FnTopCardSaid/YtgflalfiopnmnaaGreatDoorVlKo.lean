import Derived.Test.YtgflalfiopnmnaaGreatDoorVlCmp
namespace Go.Proofs.YtgflalfiopnmnaaGreatDoor
open Go.RowKit Vl

set_option maxHeartbeats 1000000 in
set_option maxRecDepth 100000 in
/-- 'impl.KeyOrder'. -/
theorem implKo_any (u v : V) (w : World) :
    Calls Tryz.prog 72 #[.agg #[.int .i64 u.k, .int .i64 u.n, .string u.s, .int .i64 u.a], .agg #[.int .i64 v.k, .int .i64 v.n, .string v.s, .int .i64 v.a]] w fun e w' => e = .returned (.int .i64 (ko u v)) ∧ Below w.heap.size w w' := by
  have hb0 : Hid _ := boxes w u v
  by_cases h1 : isK u = true
  · by_cases h2 : isK v = true
    · have HK : Hid (orI (cmpI u.k v.k) (cmpI u.n v.n) (cmpS u.s v.s) = ko u v) := ko_eq h1 h2
      rw [← HK.out]
      go_enter Tryz.func72, Tryz.ntmps72
      go_wp2_with fail
      refine (isKey_any u _).mono ?_
      rintro e w1 ⟨rfl, hb1⟩
      rw [h1]
      have hv1 : ValAt w1 (w.heap.size + 1) 0 v.k v.n v.s v.a := by
        have := (ValAt.new (w.alloc (Obj.cells #[.int .i64 u.k, .int .i64 u.n, .string u.s, .int .i64 u.a] 24)) v.k v.n v.s v.a).below hb1
        simpa using this
      have hu1 : ValAt w1 w.heap.size 0 u.k u.n u.s u.a := ((ValAt.new w u.k u.n u.s u.a).below ((Below.refl _ _).alloc (Nat.le_refl _) _)).below hb1
      have hB1 : Hid (Below w.heap.size w w1) := grw hb0.out hb1
      clear hb1
      have d0 := hv1.1; have d1 := hv1.2.1; have d2 := hv1.2.2.1; have d3 := hv1.2.2.2
      simp only [Nat.zero_add] at d1 d2 d3
      go_wp2_with fail
      refine (isKey_any v _).mono ?_
      rintro e w2 ⟨rfl, hb2⟩
      rw [h2]
      have hv2 := hv1.below hb2
      have hu2 := hu1.below hb2
      have hB2 : Hid (Below w.heap.size w w2) := grw hB1.out hb2
      clear d0 d1 d2 d3 hv1 hu1 hB1 hb2 hb0 HK h1 h2
      have d0 := hv2.1; have d1 := hv2.2.1; have d2 := hv2.2.2.1; have d3 := hv2.2.2.2
      have c0 := hu2.1; have c1 := hu2.2.1; have c2 := hu2.2.2.1; have c3 := hu2.2.2.2
      simp only [Nat.zero_add] at d1 d2 d3 c1 c2 c3
      clear hv2 hu2
      have hl : w.heap.size < w2.heap.size := World.block_lt_of_cell? _ _ c0
      have hl' : w.heap.size + 1 < w2.heap.size := World.block_lt_of_cell? _ _ d0
      go_wp2
      go_region_held3 (fun w' => w'.cell? ⟨w.heap.size, 0, none⟩ = some (.int .i64 u.k) ∧ w'.cell? ⟨w.heap.size, 1, none⟩ = some (.int .i64 u.n) ∧ w'.cell? ⟨w.heap.size, 2, none⟩ = some (.string u.s) ∧ w'.cell? ⟨w.heap.size + 1, 0, none⟩ = some (.int .i64 v.k) ∧ w'.cell? ⟨w.heap.size + 1, 1, none⟩ = some (.int .i64 v.n) ∧ w'.cell? ⟨w.heap.size + 1, 2, none⟩ = some (.string v.s))
        (first | exact ⟨c0, c1, c2, d0, d1, d2⟩ | go_keep)
        (first
          | (go_at_call 112; refine (cmpI_any _ _ _).mono ?_; rintro e w' ⟨rfl, rfl⟩)
          | (go_at_call 113; refine (cmpL_any _ _ _).mono ?_; rintro e w' ⟨rfl, rfl⟩)
          | (go_at_call 114; refine (cmpS_any _ _ _).mono ?_; rintro e w' ⟨rfl, rfl⟩)
          | (go_at_call 111; refine (or_any _ _ _ _ _ (World.cell?_alloc_new _ _ _ _) (World.cell?_alloc_new _ _ _ _) (World.cell?_alloc_new _ _ _ _)).mono ?_; rintro e w' ⟨rfl, rfl⟩))
      go_wp2
      go_ret
      exact ⟨rfl, (hB2.out.alloc (Nat.le_of_lt hl) _).drew⟩
    · have h2' : isK v = false := by simpa using h2
      have HK : Hid (ko u v = 2) := show ko u v = 2 by unfold ko; rw [h2', Bool.and_false, if_neg (by simp)]
      rw [HK.out]
      go_enter Tryz.func72, Tryz.ntmps72
      go_wp2_with fail
      refine (isKey_any u _).mono ?_
      rintro e w1 ⟨rfl, hb1⟩
      rw [h1]
      have hv1 : ValAt w1 (w.heap.size + 1) 0 v.k v.n v.s v.a := by
        have := (ValAt.new (w.alloc (Obj.cells #[.int .i64 u.k, .int .i64 u.n, .string u.s, .int .i64 u.a] 24)) v.k v.n v.s v.a).below hb1
        simpa using this
      have hB1 : Hid (Below w.heap.size w w1) := grw hb0.out hb1
      clear hb1
      have d0 := hv1.1; have d1 := hv1.2.1; have d2 := hv1.2.2.1; have d3 := hv1.2.2.2
      simp only [Nat.zero_add] at d1 d2 d3
      go_wp2_with fail
      refine (isKey_any v _).mono ?_
      rintro e w2 ⟨rfl, hb2⟩
      rw [h2']
      go_wp2
      go_ret
      exact ⟨rfl, grw hB1.out hb2⟩
  · have h1' : isK u = false := by simpa using h1
    have HK : Hid (ko u v = 2) := show ko u v = 2 by unfold ko; rw [h1', Bool.false_and, if_neg (by simp)]
    rw [HK.out]
    go_enter Tryz.func72, Tryz.ntmps72
    go_wp2_with fail
    refine (isKey_any u _).mono ?_
    rintro e w1 ⟨rfl, hb1⟩
    rw [h1']
    go_wp2
    go_ret
    exact ⟨rfl, grw hb0.out hb1⟩

end Go.Proofs.YtgflalfiopnmnaaGreatDoor
