import Derived.Test.YtagalpfmpdeifabG1
namespace Go.Proofs.Ytagalpfmpdeifab
open Go.RowKit Vl

theorem bl_step {a b : ByteArray} {i : Nat} (h1 : i < a.size) (h2 : i < b.size) :
    Op.bytesLess (a.toList.drop i) (b.toList.drop i) = (decide (a[i].toNat < b[i].toNat) || (a[i].toNat == b[i].toNat && Op.bytesLess (a.toList.drop (i + 1)) (b.toList.drop (i + 1)))) := by
  have e1 : a.toList.drop i = a[i] :: a.toList.drop (i + 1) := by
    rw [ByteArray.toList_eq]
    have : i < a.data.toList.length := by simpa using h1
    rw [List.drop_eq_getElem_cons this]
    rfl
  have e2 : b.toList.drop i = b[i] :: b.toList.drop (i + 1) := by
    rw [ByteArray.toList_eq]
    have : i < b.data.toList.length := by simpa using h2
    rw [List.drop_eq_getElem_cons this]
    rfl
  rw [e1, e2, Op.bytesLess]
  congr 1
  congr 1
  rw [Bool.eq_iff_iff]
  simp only [beq_iff_eq]
  exact UInt8.toNat_inj.symm

theorem len_list (a : ByteArray) : a.toList.length = a.size := by rw [ByteArray.toList_eq]; rfl

theorem bl_end {a b : ByteArray} {i : Nat} (h : ¬ (i < a.size ∧ i < b.size)) (hi : i ≤ a.size) (hi' : i ≤ b.size) :
    Op.bytesLess (a.toList.drop i) (b.toList.drop i) = decide ((a.size : Int) < b.size) := by
  by_cases h1 : i < a.size
  · have h2 : i = b.size := by omega
    have e : b.toList.drop i = [] := List.drop_eq_nil_of_le (by rw [len_list]; omega)
    rw [e]
    have : ¬ (a.size : Int) < b.size := by omega
    cases a.toList.drop i <;> simp [Op.bytesLess, this]
  · have h2 : i = a.size := by omega
    have e : a.toList.drop i = [] := List.drop_eq_nil_of_le (by rw [len_list]; omega)
    rw [e]
    by_cases h3 : i < b.size
    · have : (a.size : Int) < b.size := by omega
      have hne : b.toList.drop i ≠ [] := fun e' => by
        have := congrArg List.length e'
        simp [len_list] at this
        omega
      cases hb : b.toList.drop i with
      | nil => exact absurd hb hne
      | cons x y => simp [Op.bytesLess, this]
    · have e' : b.toList.drop i = [] := List.drop_eq_nil_of_le (by rw [len_list]; omega)
      have : ¬ (a.size : Int) < b.size := by omega
      rw [e']
      simp [Op.bytesLess, this]

set_option maxHeartbeats 1000000 in
set_option maxRecDepth 100000 in
/-- 'l2less'. -/
theorem l2less_any (u v : V) (w : World) (hu : u.s.size ≤ 9223372036854775807) :
    Calls Try.prog 49 #[.agg #[.int .i64 u.k, .int .i64 u.n, .string u.s, .int .i64 u.a], .agg #[.int .i64 v.k, .int .i64 v.n, .string v.s, .int .i64 v.a]] w fun e w' => e = .returned (.bool (less u v)) ∧ Below w.heap.size w w' := by
  obtain ⟨k, n, s, a⟩ := u
  obtain ⟨k', n', s', a'⟩ := v
  simp only at hu ⊢
  have hb0 : Hid (Below w.heap.size w ((w.alloc (Obj.cells #[.int .i64 k, .int .i64 n, .string s, .int .i64 a] 29)).alloc (Obj.cells #[.int .i64 k', .int .i64 n', .string s', .int .i64 a'] 29))) := ((Below.refl _ _).alloc (Nat.le_refl _) _).alloc (by simp) _
  unfold less
  simp only
  by_cases hk : k = k'
  · subst hk
    rw [if_pos rfl]
    by_cases h3 : k = 3
    · subst h3
      rw [if_pos rfl]
      obtain ⟨r, HR⟩ : ∃ r, Hid (Op.bytesLess s.toList s'.toList = r) := ⟨_, rfl⟩
      rw [HR.out]
      go_enter Try.func49, Try.ntmps49
      go_wp2
      go_loopw [5] (fun i wr => ∃ (j : Nat), j ≤ s.size ∧ j ≤ s'.size ∧ i = .int .i64 j ∧ Hid (Op.bytesLess (s.toList.drop j) (s'.toList.drop j) = r) ∧ Hid (ValAt wr w.heap.size 0 3 n s a) ∧ Hid (ValAt wr (w.heap.size + 1) 0 3 n' s' a') ∧ Hid (Below w.heap.size w wr)) (fun i _ => s.size - (intOf i).toNat)
      case atStart =>
        refine ⟨0, by omega, by omega, rfl, by simpa using HR, ?_, ?_, hb0⟩
        · exact (ValAt.new w 3 n s a).below ((Below.refl _ _).alloc (Nat.le_refl _) _)
        · have := ValAt.new (w.alloc (Obj.cells #[.int .i64 3, .int .i64 n, .string s, .int .i64 a] 29)) 3 n' s' a'
          have e : (w.alloc (Obj.cells #[.int .i64 3, .int .i64 n, .string s, .int .i64 a] 29)).heap.size = w.heap.size + 1 := by simp
          rw [e] at this
          exact this
      case round =>
        obtain ⟨j, hj, hj', rfl, HJ, HA, HB, HW⟩ := hrel
        clear hb0 HR
        have c2 := HA.out.2.2.1
        have d2 := HB.out.2.2.1
        simp only [Nat.zero_add] at c2 d2
        by_cases h1 : j < s.size
        · by_cases h2 : j < s'.size
          · have e := HJ.out
            rw [bl_step h1 h2] at e
            by_cases hxy : s[j].toNat = s'[j].toNat
            · have hne : (((s[j].toNat : Nat) : Int) != ((s'[j].toNat : Nat) : Int)) = false := by simp [hxy]
              have HE : Hid (Op.bytesLess (s.toList.drop (j + 1)) (s'.toList.drop (j + 1)) = r) := by
                rw [hxy] at e
                have e2 : Op.bytesLess (s.toList.drop (j + 1)) (s'.toList.drop (j + 1)) = r := by simpa using e
                exact e2
              clear e hxy HJ
              go_wp2
              go_quiet (fail)
              go_wp2
              go_roundw
              case rel =>
                have hd := below_drewN (Below.refl wr.heap.size wr) nq
                exact ⟨j + 1, by omega, by omega, by go_num, HE, HA.out.below hd, HB.out.below hd, below_drewN HW.out nq⟩
              case measure => simp [intOf]; omega
            · have hne : (((s[j].toNat : Nat) : Int) != ((s'[j].toNat : Nat) : Int)) = true := by
                simp only [bne_iff_ne, ne_eq]; omega
              have HE : Hid (decide (((s[j].toNat : Nat) : Int) < ((s'[j].toNat : Nat) : Int)) = r) := by
                have : (s[j].toNat == s'[j].toNat) = false := by simpa using hxy
                rw [this, Bool.false_and, Bool.or_false] at e
                rw [← e]
                show decide _ = decide _
                rw [decide_eq_decide]
                omega
              clear e hxy HJ
              go_wp2
              go_quiet (fail)
              go_wp2
              go_quiet (fail)
              go_wp2
              go_ret
              refine ⟨?_, ?_⟩
              · exact congrArg (fun b => Ending.returned (.bool b)) (show _ = _ by rw [← HE.out]; first | rfl | (show decide _ = decide _; rw [decide_eq_decide]; omega))
              · first | exact below_drewN (below_drewN HW.out _) _ | exact below_drewN HW.out _
          · have e := HJ.out
            rw [bl_end (fun h => h2 h.2) hj hj'] at e
            have HE : Hid (decide ((s.size : Int) < (s'.size : Int)) = r) := e
            clear e HJ
            go_wp2
            go_ret
            exact ⟨congrArg (fun b => Ending.returned (.bool b)) (show _ = _ by rw [← HE.out]; first | rfl | (show decide _ = decide _; rw [decide_eq_decide]; omega)), HW.out⟩
        · have e := HJ.out
          rw [bl_end (fun h => h1 h.1) hj hj'] at e
          have HE : Hid (decide ((s.size : Int) < (s'.size : Int)) = r) := e
          clear e HJ
          go_wp2
          go_ret
          exact ⟨congrArg (fun b => Ending.returned (.bool b)) (show _ = _ by rw [← HE.out]; first | rfl | (show decide _ = decide _; rw [decide_eq_decide]; omega)), HW.out⟩
    · rw [if_neg h3]
      have hk3 : (k != 3) = true := by simpa using h3
      go_enter Try.func49, Try.ntmps49
      go_wp2
      go_ret
      exact ⟨rfl, hb0.out⟩
  · rw [if_neg hk]
    have hk3 : (k != k') = true := by simpa using hk
    go_enter Try.func49, Try.ntmps49
    go_wp2
    go_ret
    exact ⟨rfl, hb0.out⟩

end Go.Proofs.Ytagalpfmpdeifab

namespace Go.Proofs.Ytagalpfmpdeifab
open Go.RowKit Vl

theorem boxes (w : World) (u v : V) : Below w.heap.size w ((w.alloc (Obj.cells #[.int .i64 u.k, .int .i64 u.n, .string u.s, .int .i64 u.a] 29)).alloc (Obj.cells #[.int .i64 v.k, .int .i64 v.n, .string v.s, .int .i64 v.a] 29)) :=
  ((Below.refl _ _).alloc (Nat.le_refl _) _).alloc (by simp) _

set_option maxHeartbeats 1000000 in
set_option maxRecDepth 100000 in
/-- 'impl.KeyOrder'. -/
theorem implKo_any (u v : V) (w : World) :
    Calls Try.prog 19 #[.agg #[.int .i64 u.k, .int .i64 u.n, .string u.s, .int .i64 u.a], .agg #[.int .i64 v.k, .int .i64 v.n, .string v.s, .int .i64 v.a]] w fun e w' => e = .returned (.int .i64 (ko u v)) ∧ Below w.heap.size w w' := by
  have hb0 : Hid _ := boxes w u v
  by_cases h1 : isK u = true
  · by_cases h2 : isK v = true
    · have HK : Hid (orI (cmpI u.k v.k) (cmpI u.n v.n) (cmpS u.s v.s) = ko u v) := ko_eq h1 h2
      rw [← HK.out]
      go_enter Try.func19, Try.ntmps19
      go_wp2_with fail
      refine (isKey_any u _).mono ?_
      rintro e w1 ⟨rfl, hb1⟩
      rw [h1]
      have hv1 : ValAt w1 (w.heap.size + 1) 0 v.k v.n v.s v.a := by
        have := (ValAt.new (w.alloc (Obj.cells #[.int .i64 u.k, .int .i64 u.n, .string u.s, .int .i64 u.a] 29)) v.k v.n v.s v.a).below hb1
        simpa using this
      have hu1 : ValAt w1 w.heap.size 0 u.k u.n u.s u.a := ((ValAt.new w u.k u.n u.s u.a).below ((Below.refl _ _).alloc (Nat.le_refl _) _)).below hb1
      have hB1 : Hid (Below w.heap.size w w1) := grw hb0.out hb1
      clear hb1
      have d0 := hv1.1; have d1 := hv1.2.1; have d2 := hv1.2.2.1; have d3 := hv1.2.2.2
      simp only [Nat.zero_add] at d1 d2 d3
      go_wp2_with fail
      refine (isKey_any v _).mono ?_
      rintro e w2 ⟨rfl, hb2⟩
      rw [h2]
      have hv2 := hv1.below hb2
      have hu2 := hu1.below hb2
      have hB2 : Hid (Below w.heap.size w w2) := grw hB1.out hb2
      clear d0 d1 d2 d3 hv1 hu1 hB1 hb2 hb0 HK h1 h2
      have d0 := hv2.1; have d1 := hv2.2.1; have d2 := hv2.2.2.1; have d3 := hv2.2.2.2
      have c0 := hu2.1; have c1 := hu2.2.1; have c2 := hu2.2.2.1; have c3 := hu2.2.2.2
      simp only [Nat.zero_add] at d1 d2 d3 c1 c2 c3
      clear hv2 hu2
      have hl : w.heap.size < w2.heap.size := World.block_lt_of_cell? _ _ c0
      have hl' : w.heap.size + 1 < w2.heap.size := World.block_lt_of_cell? _ _ d0
      go_wp2
      go_region_held3 (fun w' => w'.cell? ⟨w.heap.size, 0, none⟩ = some (.int .i64 u.k) ∧ w'.cell? ⟨w.heap.size, 1, none⟩ = some (.int .i64 u.n) ∧ w'.cell? ⟨w.heap.size, 2, none⟩ = some (.string u.s) ∧ w'.cell? ⟨w.heap.size + 1, 0, none⟩ = some (.int .i64 v.k) ∧ w'.cell? ⟨w.heap.size + 1, 1, none⟩ = some (.int .i64 v.n) ∧ w'.cell? ⟨w.heap.size + 1, 2, none⟩ = some (.string v.s))
        (first | exact ⟨c0, c1, c2, d0, d1, d2⟩ | go_keep)
        (first
          | (go_at_call 52; refine (cmpI_any _ _ _).mono ?_; rintro e w' ⟨rfl, rfl⟩)
          | (go_at_call 53; refine (cmpL_any _ _ _).mono ?_; rintro e w' ⟨rfl, rfl⟩)
          | (go_at_call 54; refine (cmpS_any _ _ _).mono ?_; rintro e w' ⟨rfl, rfl⟩)
          | (go_at_call 51; refine (or_any _ _ _ _ _ (World.cell?_alloc_new _ _ _ _) (World.cell?_alloc_new _ _ _ _) (World.cell?_alloc_new _ _ _ _)).mono ?_; rintro e w' ⟨rfl, rfl⟩))
      go_wp2
      go_ret
      exact ⟨rfl, (hB2.out.alloc (Nat.le_of_lt hl) _).drew⟩
    · have h2' : isK v = false := by simpa using h2
      have HK : Hid (ko u v = 2) := show ko u v = 2 by unfold ko; rw [h2', Bool.and_false, if_neg (by simp)]
      rw [HK.out]
      go_enter Try.func19, Try.ntmps19
      go_wp2_with fail
      refine (isKey_any u _).mono ?_
      rintro e w1 ⟨rfl, hb1⟩
      rw [h1]
      have hv1 : ValAt w1 (w.heap.size + 1) 0 v.k v.n v.s v.a := by
        have := (ValAt.new (w.alloc (Obj.cells #[.int .i64 u.k, .int .i64 u.n, .string u.s, .int .i64 u.a] 29)) v.k v.n v.s v.a).below hb1
        simpa using this
      have hB1 : Hid (Below w.heap.size w w1) := grw hb0.out hb1
      clear hb1
      have d0 := hv1.1; have d1 := hv1.2.1; have d2 := hv1.2.2.1; have d3 := hv1.2.2.2
      simp only [Nat.zero_add] at d1 d2 d3
      go_wp2_with fail
      refine (isKey_any v _).mono ?_
      rintro e w2 ⟨rfl, hb2⟩
      rw [h2']
      go_wp2
      go_ret
      exact ⟨rfl, grw hB1.out hb2⟩
  · have h1' : isK u = false := by simpa using h1
    have HK : Hid (ko u v = 2) := show ko u v = 2 by unfold ko; rw [h1', Bool.false_and, if_neg (by simp)]
    rw [HK.out]
    go_enter Try.func19, Try.ntmps19
    go_wp2_with fail
    refine (isKey_any u _).mono ?_
    rintro e w1 ⟨rfl, hb1⟩
    rw [h1']
    go_wp2
    go_ret
    exact ⟨rfl, grw hb0.out hb1⟩

end Go.Proofs.Ytagalpfmpdeifab

namespace Go.Proofs.Ytagalpfmpdeifab
open Go.RowKit Vl

/-- 'spec.KeyOrder'. -/
theorem specKo_any (u v : V) (w : World) (hu : u.s.size ≤ 9223372036854775807) (hv : v.s.size ≤ 9223372036854775807) :
    Calls Try.prog 17 #[.agg #[.int .i64 u.k, .int .i64 u.n, .string u.s, .int .i64 u.a], .agg #[.int .i64 v.k, .int .i64 v.n, .string v.s, .int .i64 v.a]] w fun e w' => e = .returned (.int .i64 (ko u v)) ∧ Below w.heap.size w w' := by
  have hb0 : Hid _ := boxes w u v
  have HA : Hid (ValAt ((w.alloc (Obj.cells #[.int .i64 u.k, .int .i64 u.n, .string u.s, .int .i64 u.a] 29)).alloc (Obj.cells #[.int .i64 v.k, .int .i64 v.n, .string v.s, .int .i64 v.a] 29)) w.heap.size 0 u.k u.n u.s u.a) :=
    (ValAt.new w u.k u.n u.s u.a).below ((Below.refl _ _).alloc (Nat.le_refl _) _)
  have HB : Hid (ValAt ((w.alloc (Obj.cells #[.int .i64 u.k, .int .i64 u.n, .string u.s, .int .i64 u.a] 29)).alloc (Obj.cells #[.int .i64 v.k, .int .i64 v.n, .string v.s, .int .i64 v.a] 29)) (w.heap.size + 1) 0 v.k v.n v.s v.a) := by
    have := ValAt.new (w.alloc (Obj.cells #[.int .i64 u.k, .int .i64 u.n, .string u.s, .int .i64 u.a] 29)) v.k v.n v.s v.a
    have e : (w.alloc (Obj.cells #[.int .i64 u.k, .int .i64 u.n, .string u.s, .int .i64 u.a] 29)).heap.size = w.heap.size + 1 := by simp
    rw [e] at this
    exact this
  by_cases h1 : isK u = true
  · by_cases h2 : isK v = true
    · obtain ⟨b1, E1⟩ : ∃ b, Hid (less u v = b) := ⟨_, rfl⟩
      obtain ⟨b2, E2⟩ : ∃ b, Hid (less v u = b) := ⟨_, rfl⟩
      have HK : Hid (ko u v = if b1 then -1 else if b2 then 1 else 0) := show ko u v = _ by unfold ko; rw [h1, h2, E1.out, E2.out]; rfl
      rw [HK.out]
      go_enter Try.func17, Try.ntmps17
      go_wp2_with fail
      refine (l2key_any u _).mono ?_
      rintro e w1 ⟨rfl, hb1⟩
      rw [h1]
      have HA1 : Hid (ValAt w1 w.heap.size 0 u.k u.n u.s u.a) := HA.out.below hb1
      have HB1 : Hid (ValAt w1 (w.heap.size + 1) 0 v.k v.n v.s v.a) := HB.out.below hb1
      have HW1 : Hid (Below w.heap.size w w1) := grw hb0.out hb1
      clear hb1 HA HB hb0
      have d0 := HB1.out.1; have d1 := HB1.out.2.1; have d2 := HB1.out.2.2.1; have d3 := HB1.out.2.2.2
      simp only [Nat.zero_add] at d1 d2 d3
      go_wp2_with fail
      refine (l2key_any v _).mono ?_
      rintro e w2 ⟨rfl, hb2⟩
      rw [h2]
      have HA2 : Hid (ValAt w2 w.heap.size 0 u.k u.n u.s u.a) := HA1.out.below hb2
      have HB2 : Hid (ValAt w2 (w.heap.size + 1) 0 v.k v.n v.s v.a) := HB1.out.below hb2
      have HW2 : Hid (Below w.heap.size w w2) := grw HW1.out hb2
      clear hb2 HA1 HB1 HW1 HK h1 h2 d0 d1 d2 d3
      have d0 := HB2.out.1; have d1 := HB2.out.2.1; have d2 := HB2.out.2.2.1; have d3 := HB2.out.2.2.2
      have c0 := HA2.out.1; have c1 := HA2.out.2.1; have c2 := HA2.out.2.2.1; have c3 := HA2.out.2.2.2
      simp only [Nat.zero_add] at d1 d2 d3 c1 c2 c3
      go_wp2_with fail
      refine (l2less_any u v _ hu).mono ?_
      rintro e w3 ⟨rfl, hb3⟩
      have HA3 : Hid (ValAt w3 w.heap.size 0 u.k u.n u.s u.a) := HA2.out.below hb3
      have HB3 : Hid (ValAt w3 (w.heap.size + 1) 0 v.k v.n v.s v.a) := HB2.out.below hb3
      have HW3 : Hid (Below w.heap.size w w3) := grw HW2.out hb3
      clear hb3 HA2 HB2 HW2 d0 d1 d2 d3 c0 c1 c2 c3
      rw [E1.out]
      cases b1
      · have d0 := HB3.out.1; have d1 := HB3.out.2.1; have d2 := HB3.out.2.2.1; have d3 := HB3.out.2.2.2
        have c0 := HA3.out.1; have c1 := HA3.out.2.1; have c2 := HA3.out.2.2.1; have c3 := HA3.out.2.2.2
        simp only [Nat.zero_add] at d1 d2 d3 c1 c2 c3
        go_wp2_with fail
        refine (l2less_any v u _ hv).mono ?_
        rintro e w4 ⟨rfl, hb4⟩
        have HW4 : Hid (Below w.heap.size w w4) := grw HW3.out hb4
        clear hb4 HA3 HB3 HW3 d0 d1 d2 d3 c0 c1 c2 c3
        rw [E2.out]
        cases b2
        all_goals
          go_wp2
          go_ret
          exact ⟨rfl, HW4.out⟩
      · go_wp2
        go_ret
        exact ⟨rfl, HW3.out⟩
    · have h2' : isK v = false := by simpa using h2
      have HK : Hid (ko u v = 2) := show ko u v = 2 by unfold ko; rw [h2', Bool.and_false, if_neg (by simp)]
      rw [HK.out]
      go_enter Try.func17, Try.ntmps17
      go_wp2_with fail
      refine (l2key_any u _).mono ?_
      rintro e w1 ⟨rfl, hb1⟩
      rw [h1]
      have HB1 : Hid (ValAt w1 (w.heap.size + 1) 0 v.k v.n v.s v.a) := HB.out.below hb1
      have hB1 : Hid (Below w.heap.size w w1) := grw hb0.out hb1
      clear hb1
      have d0 := HB1.out.1; have d1 := HB1.out.2.1; have d2 := HB1.out.2.2.1; have d3 := HB1.out.2.2.2
      simp only [Nat.zero_add] at d1 d2 d3
      go_wp2_with fail
      refine (l2key_any v _).mono ?_
      rintro e w2 ⟨rfl, hb2⟩
      rw [h2']
      go_wp2
      go_ret
      exact ⟨rfl, grw hB1.out hb2⟩
  · have h1' : isK u = false := by simpa using h1
    have HK : Hid (ko u v = 2) := show ko u v = 2 by unfold ko; rw [h1', Bool.false_and, if_neg (by simp)]
    rw [HK.out]
    go_enter Try.func17, Try.ntmps17
    go_wp2_with fail
    refine (l2key_any u _).mono ?_
    rintro e w1 ⟨rfl, hb1⟩
    rw [h1']
    go_wp2
    go_ret
    exact ⟨rfl, grw hb0.out hb1⟩

end Go.Proofs.Ytagalpfmpdeifab

namespace Go.Proofs.Ytagalpfmpdeifab
open Go.RowKit Vl

/-- 'toVal'. -/
theorem toVal_any (v : V) (w : World) :
    Calls Try.prog 18 #[.agg #[.int .i64 v.k, .int .i64 v.n, .string v.s, .int .i64 v.a]] w fun e w' => e = .returned (.agg #[.int .i64 v.k, .int .i64 v.n, .string v.s, .int .i64 v.a]) ∧ Below w.heap.size w w' := by
  go_enter Try.func18, Try.ntmps18
  go_wp2
  refine bodyPost_ret (v := .agg #[.int .i64 v.k, .int .i64 v.n, .string v.s, .int .i64 v.a]) (by simp [results, Try.results18, go_sem]) rfl ⟨rfl, ?_⟩
  exact (((Below.refl _ _).alloc (Nat.le_refl _) _).alloc (by simp) _).alloc (by simp; omega) _

/-- 'szVal'. -/
theorem szVal_any (v : V) (k : Int) (w : World) (hk0 : 0 ≤ k) (hk1 : k ≤ 1048576) (hs : v.s.size ≤ 9223372036854775807) :
    Calls Try.prog 16 #[.agg #[.int .i64 v.k, .int .i64 v.n, .string v.s, .int .i64 v.a], .int .i64 k] w fun e w' => e = .returned (.int .i64 (if k < v.s.size then -1 else k - v.s.size)) ∧ Below w.heap.size w w' := by
  have hb0 : Hid (Below w.heap.size w (w.alloc (Obj.cells #[.int .i64 v.k, .int .i64 v.n, .string v.s, .int .i64 v.a] 23))) := (Below.refl _ _).alloc (Nat.le_refl _) _
  by_cases h : k - v.s.size < 0
  · rw [if_pos (by omega)]
    go_enter Try.func16, Try.ntmps16
    go_wp2
    go_ret
    exact ⟨rfl, hb0.out⟩
  · rw [if_neg (by omega)]
    go_enter Try.func16, Try.ntmps16
    go_wp2
    go_ret
    exact ⟨rfl, hb0.out⟩

end Go.Proofs.Ytagalpfmpdeifab

namespace Go.Proofs.Ytagalpfmpdeifab
open Go.RowKit Vl

/-- A value in four cells. -/
def VAt (w : World) (b o : Nat) (v : V) : Prop := ValAt w b o v.k v.n v.s v.a
theorem VAt.below {w w' : World} {b o : Nat} {v : V} (h : VAt w b o v) (hb : Below w.heap.size w w') : VAt w' b o v := ValAt.below h hb

/-- A slice of pairs: L keys and values. -/
structure PairsAt (w : World) (pa : Option Addr) (L B O : Nat) (K X : Nat → V) : Prop where
  top : 0 < L → pa = some ⟨B, O, none⟩
  key : ∀ c, c < L → VAt w B (O + c * 8) (K c)
  val : ∀ c, c < L → VAt w B (O + c * 8 + 4) (X c)
theorem PairsAt.below {w w' : World} {pa : Option Addr} {L B O : Nat} {K X : Nat → V} (h : PairsAt w pa L B O K X) (hb : Below w.heap.size w w') : PairsAt w' pa L B O K X :=
  ⟨h.top, fun c hc => (h.key c hc).below hb, fun c hc => (h.val c hc).below hb⟩

/-- A slice of tables. -/
structure TabsAt (w : World) (ta : Option Addr) (n TB TO : Nat) (A : Nat → Option Addr) (L C RB RO : Nat → Nat) (K X : Nat → Nat → V) : Prop where
  top : 0 < n → ta = some ⟨TB, TO, none⟩
  tab : ∀ r, r < n → w.cell? ⟨TB, TO + r, none⟩ = some (.slice (A r) (L r) (C r))
  row : ∀ r, r < n → PairsAt w (A r) (L r) (RB r) (RO r) (K r) (X r)
theorem TabsAt.below {w w' : World} {ta : Option Addr} {n TB TO : Nat} {A : Nat → Option Addr} {L C RB RO : Nat → Nat} {K X : Nat → Nat → V} (h : TabsAt w ta n TB TO A L C RB RO K X) (hb : Below w.heap.size w w') : TabsAt w' ta n TB TO A L C RB RO K X :=
  ⟨h.top, fun r hr => (hb.cell (p := ⟨TB, TO + r, none⟩) (World.block_lt_of_cell? _ _ (h.tab r hr))).trans (h.tab r hr), fun r hr => (h.row r hr).below hb⟩

/-- The eight cells of a pair, written out. -/
theorem PairsAt.cells {w : World} {pa : Option Addr} {L B O : Nat} {K X : Nat → V} (h : PairsAt w pa L B O K X) {c : Nat} (hc : c < L) :
    (w.cell? ⟨B, O + c * 8, none⟩ = some (.int .i64 (K c).k) ∧ w.cell? ⟨B, O + c * 8 + 1, none⟩ = some (.int .i64 (K c).n) ∧ w.cell? ⟨B, O + c * 8 + 2, none⟩ = some (.string (K c).s) ∧ w.cell? ⟨B, O + c * 8 + 3, none⟩ = some (.int .i64 (K c).a)) ∧
    (w.cell? ⟨B, O + c * 8 + 4, none⟩ = some (.int .i64 (X c).k) ∧ w.cell? ⟨B, O + c * 8 + 5, none⟩ = some (.int .i64 (X c).n) ∧ w.cell? ⟨B, O + c * 8 + 6, none⟩ = some (.string (X c).s) ∧ w.cell? ⟨B, O + c * 8 + 7, none⟩ = some (.int .i64 (X c).a)) := ⟨h.key c hc, h.val c hc⟩

set_option maxHeartbeats 400000 in
/-- 'szPair'. -/
theorem szPair_any (u v : V) (k : Int) (w : World) (hk0 : 0 ≤ k) (hk1 : k ≤ 1048576) (hu : u.s.size ≤ 9223372036854775807) (hv : v.s.size ≤ 9223372036854775807) :
    Calls Try.prog 114 #[.agg #[.int .i64 u.k, .int .i64 u.n, .string u.s, .int .i64 u.a, .int .i64 v.k, .int .i64 v.n, .string v.s, .int .i64 v.a], .int .i64 k] w fun e w' => (∃ q : Int, e = .returned (.int .i64 q) ∧ q ≤ k ∧ (0 ≤ q → u.s.size ≤ 1048576 ∧ v.s.size ≤ 1048576)) ∧ Below w.heap.size w w' := by
  have hb0 : Hid (Below w.heap.size w (w.alloc (Obj.cells #[.int .i64 u.k, .int .i64 u.n, .string u.s, .int .i64 u.a, .int .i64 v.k, .int .i64 v.n, .string v.s, .int .i64 v.a] 191))) := (Below.refl _ _).alloc (Nat.le_refl _) _
  have hc : ∀ w', Below (w.alloc (Obj.cells #[.int .i64 u.k, .int .i64 u.n, .string u.s, .int .i64 u.a, .int .i64 v.k, .int .i64 v.n, .string v.s, .int .i64 v.a] 191)).heap.size (w.alloc (Obj.cells #[.int .i64 u.k, .int .i64 u.n, .string u.s, .int .i64 u.a, .int .i64 v.k, .int .i64 v.n, .string v.s, .int .i64 v.a] 191)) w' →
      w'.cell? ⟨w.heap.size, 4, none⟩ = some (.int .i64 v.k) ∧ w'.cell? ⟨w.heap.size, 5, none⟩ = some (.int .i64 v.n) ∧ w'.cell? ⟨w.heap.size, 6, none⟩ = some (.string v.s) ∧ w'.cell? ⟨w.heap.size, 7, none⟩ = some (.int .i64 v.a) := fun w' h => by
    refine ⟨?_, ?_, ?_, ?_⟩ <;> (rw [h.cell (by simp)]; simp [World.cell?_alloc_new])
  go_enter Try.func114, Try.ntmps114
  go_wp2_with fail
  refine (szVal_any u k _ hk0 hk1 hu).mono ?_
  rintro e w1 ⟨rfl, hb1⟩
  obtain ⟨c4, c5, c6, c7⟩ := hc w1 hb1
  have HW1 : Hid (Below w.heap.size w w1) := grw hb0.out hb1
  clear hc hb1 hb0
  by_cases h1 : k < u.s.size
  · rw [if_pos h1]
    go_wp2
    go_ret
    exact ⟨⟨_, rfl, by omega, by omega⟩, HW1.out⟩
  · rw [if_neg h1]
    have hn : ¬ k - u.s.size < 0 := by omega
    go_wp2_with fail
    refine (szVal_any v _ _ (by omega) (by omega) hv).mono ?_
    rintro e w2 ⟨rfl, hb2⟩
    have HW2 : Hid (Below w.heap.size w w2) := grw HW1.out hb2
    clear hb2 HW1 c4 c5 c6 c7
    by_cases h2 : k - u.s.size < v.s.size
    · rw [if_pos h2]
      go_wp2
      go_ret
      exact ⟨⟨_, rfl, by omega, by omega⟩, HW2.out⟩
    · rw [if_neg h2]
      have hn2 : ¬ k - u.s.size - v.s.size < 0 := by omega
      go_wp2
      go_ret
      exact ⟨⟨_, rfl, by omega, by omega⟩, HW2.out⟩

end Go.Proofs.Ytagalpfmpdeifab

namespace Go.Proofs.Ytagalpfmpdeifab
open Go.RowKit Vl

set_option maxHeartbeats 1000000 in
set_option maxRecDepth 100000 in
/-- 'szPairS': what is not too much has at most so many pairs, and its texts are not too long. -/
theorem szPairS_any (pa : Option Addr) (L C B O : Nat) (K X : Nat → V) (k : Int) (w : World) (hk0 : 0 ≤ k) (hk1 : k ≤ 1048576) (hL : L ≤ 9223372036854775807)
    (HS : Hid (∀ c, c < L → (K c).s.size ≤ 9223372036854775807 ∧ (X c).s.size ≤ 9223372036854775807)) (HP : Hid (PairsAt w pa L B O K X)) :
    Calls Try.prog 99 #[.slice pa L C, .int .i64 k] w fun e w' => (∃ q : Int, e = .returned (.int .i64 q) ∧ q ≤ k ∧ (0 ≤ q → L ≤ 1048576 ∧ ∀ c, c < L → (K c).s.size ≤ 1048576 ∧ (X c).s.size ≤ 1048576)) ∧ Below w.heap.size w w' := by
  by_cases h : k - L < 0
  · go_enter Try.func99, Try.ntmps99
    go_wp2
    go_ret
    exact ⟨⟨_, rfl, by omega, by omega⟩, Below.refl _ _⟩
  · go_enter Try.func99, Try.ntmps99
    go_wp2
    go_loopw [1, 5] (fun l i wr => ∃ (c : Nat) (q : Int), c ≤ L ∧ i = .int .i64 c ∧ l = .int .i64 q ∧ 0 ≤ q ∧ q ≤ k ∧ Hid (∀ j, j < c → (K j).s.size ≤ 1048576 ∧ (X j).s.size ≤ 1048576) ∧ Hid (Below w.heap.size w wr)) (fun _ i _ => L - (intOf i).toNat)
    case atStart => exact ⟨0, _, Nat.zero_le _, rfl, rfl, by omega, by omega, fun r hr => absurd hr (Nat.not_lt_zero _), Below.refl _ _⟩
    case round =>
      obtain ⟨c, q, hc, rfl, rfl, hq0, hq1, HZ, HW⟩ := hrel
      by_cases hlt : c < L
      · obtain rfl := HP.out.top (by omega)
        obtain ⟨⟨k0, k1, k2, k3⟩, ⟨x0, x1, x2, x3⟩⟩ := (HP.out.below HW.out).cells hlt
        have hs := HS.out c hlt
        go_wp2_with fail
        refine (szPair_any (K c) (X c) q _ hq0 (by omega) hs.1 hs.2).mono ?_
        rintro e w1 ⟨⟨q1, rfl, hq2, hq3⟩, hb1⟩
        have HW1 : Hid (Below w.heap.size w w1) := grw HW.out hb1
        clear hb1 HW k0 k1 k2 k3 x0 x1 x2 x3 hs
        by_cases hq : q1 < 0
        · clear hq3
          go_wp2
          go_ret
          exact ⟨⟨_, rfl, by omega, by omega⟩, HW1.out⟩
        · have HZ1 : Hid (∀ j, j < c + 1 → (K j).s.size ≤ 1048576 ∧ (X j).s.size ≤ 1048576) := show ∀ j, j < c + 1 → _ from fun j hj => by
            by_cases e : j = c
            · subst e; exact hq3 (by omega)
            · exact HZ.out j (by omega)
          clear hq3 HZ
          go_wp2
          go_roundw
          case rel => exact ⟨c + 1, q1, by omega, by go_num, rfl, by omega, by omega, HZ1, HW1⟩
          case measure => simp [intOf]; omega
      · have HK : Hid (c = L) := show c = L by omega
        go_wp2
        go_ret
        exact ⟨⟨_, rfl, by omega, fun _ => ⟨by omega, by rw [← HK.out]; exact HZ.out⟩⟩, HW.out⟩

/-- 'szTable'. -/
theorem szTable_any (pa : Option Addr) (L C B O : Nat) (K X : Nat → V) (k : Int) (w : World) (hk0 : 0 ≤ k) (hk1 : k ≤ 1048576) (hL : L ≤ 9223372036854775807)
    (HS : Hid (∀ c, c < L → (K c).s.size ≤ 9223372036854775807 ∧ (X c).s.size ≤ 9223372036854775807)) (HP : Hid (PairsAt w pa L B O K X)) :
    Calls Try.prog 75 #[.agg #[.slice pa L C], .int .i64 k] w fun e w' => (∃ q : Int, e = .returned (.int .i64 q) ∧ q ≤ k ∧ (0 ≤ q → L ≤ 1048576 ∧ ∀ c, c < L → (K c).s.size ≤ 1048576 ∧ (X c).s.size ≤ 1048576)) ∧ Below w.heap.size w w' := by
  have hb0 : Hid (Below w.heap.size w (w.alloc (Obj.cells #[.slice pa L C] 125))) := (Below.refl _ _).alloc (Nat.le_refl _) _
  have hs := szPairS_any pa L C B O K X k _ hk0 hk1 hL HS (HP.out.below hb0.out)
  go_enter Try.func75, Try.ntmps75
  go_wp2_with fail
  refine hs.mono ?_
  clear hs
  rintro e w1 ⟨⟨q1, rfl, hq2, hq3⟩, hb1⟩
  have HW1 : Hid (Below w.heap.size w w1) := grw hb0.out hb1
  have HQ3 : Hid _ := hq3
  clear hb1 hb0 hq3
  by_cases hq : q1 < 0
  · go_wp2
    go_ret
    exact ⟨⟨_, rfl, by omega, by omega⟩, HW1.out⟩
  · go_wp2
    go_ret
    exact ⟨⟨_, rfl, by omega, HQ3.out⟩, HW1.out⟩

/-- Every text of the tables is no longer than m, and the pairs no more. -/
def Small (m n : Nat) (L : Nat → Nat) (K X : Nat → Nat → V) : Prop := ∀ r, r < n → L r ≤ m ∧ ∀ c, c < L r → (K r c).s.size ≤ m ∧ (X r c).s.size ≤ m

set_option maxHeartbeats 1000000 in
set_option maxRecDepth 100000 in
/-- 'szTableS'. -/
theorem szTableS_any (ta : Option Addr) (n cp TB TO : Nat) (A : Nat → Option Addr) (L C RB RO : Nat → Nat) (K X : Nat → Nat → V) (k : Int) (w : World) (hk0 : 0 ≤ k) (hk1 : k ≤ 1048576) (hn : n ≤ 9223372036854775807)
    (HS : Hid (Small 9223372036854775807 n L K X)) (HT : Hid (TabsAt w ta n TB TO A L C RB RO K X)) :
    Calls Try.prog 43 #[.slice ta n cp, .int .i64 k] w fun e w' => (∃ q : Int, e = .returned (.int .i64 q) ∧ q ≤ k ∧ (0 ≤ q → n ≤ 1048576 ∧ Small 1048576 n L K X)) ∧ Below w.heap.size w w' := by
  by_cases h : k - n < 0
  · go_enter Try.func43, Try.ntmps43
    go_wp2
    go_ret
    exact ⟨⟨_, rfl, by omega, by omega⟩, Below.refl _ _⟩
  · go_enter Try.func43, Try.ntmps43
    go_wp2
    go_loopw [1, 5] (fun l i wr => ∃ (c : Nat) (q : Int), c ≤ n ∧ i = .int .i64 c ∧ l = .int .i64 q ∧ 0 ≤ q ∧ q ≤ k ∧ Hid (Small 1048576 c L K X) ∧ Hid (Below w.heap.size w wr)) (fun _ i _ => n - (intOf i).toNat)
    case atStart => exact ⟨0, _, Nat.zero_le _, rfl, rfl, by omega, by omega, fun r hr => absurd hr (Nat.not_lt_zero _), Below.refl _ _⟩
    case round =>
      obtain ⟨c, q, hc, rfl, rfl, hq0, hq1, HZ, HW⟩ := hrel
      by_cases hlt : c < n
      · obtain rfl := HT.out.top (by omega)
        have t0 := (HT.out.below HW.out).tab c hlt
        have hz := szTable_any (A c) (L c) (C c) (RB c) (RO c) (K c) (X c) q wr hq0 (by omega) (HS.out c hlt).1 (HS.out c hlt).2 ((HT.out.below HW.out).row c hlt)
        go_wp2_with fail
        refine hz.mono ?_
        clear hz
        rintro e w1 ⟨⟨q1, rfl, hq2, hq3⟩, hb1⟩
        have HW1 : Hid (Below w.heap.size w w1) := grw HW.out hb1
        clear hb1 HW t0
        by_cases hq : q1 < 0
        · clear hq3
          go_wp2
          go_ret
          exact ⟨⟨_, rfl, by omega, by omega⟩, HW1.out⟩
        · have HZ1 : Hid (Small 1048576 (c + 1) L K X) := show Small 1048576 (c + 1) L K X from fun j hj => by
            by_cases e : j = c
            · subst e; exact hq3 (by omega)
            · exact HZ.out j (by omega)
          clear hq3 HZ
          go_wp2
          go_roundw
          case rel => exact ⟨c + 1, q1, by omega, by go_num, rfl, by omega, by omega, HZ1, HW1⟩
          case measure => simp [intOf]; omega
      · have HK : Hid (c = n) := show c = n by omega
        go_wp2
        go_ret
        exact ⟨⟨_, rfl, by omega, fun _ => ⟨by omega, by rw [← HK.out]; exact HZ.out⟩⟩, HW.out⟩

set_option maxHeartbeats 1000000 in
set_option maxRecDepth 100000 in
/-- 'szGraph'. -/
theorem szGraph_any (u : V) (ta : Option Addr) (n cp TB TO : Nat) (A : Nat → Option Addr) (L C RB RO : Nat → Nat) (K X : Nat → Nat → V) (k : Int) (w : World) (hk0 : 0 ≤ k) (hk1 : k ≤ 1048576) (hu : u.s.size ≤ 9223372036854775807) (hn : n ≤ 9223372036854775807)
    (HS : Hid (Small 9223372036854775807 n L K X)) (HT : Hid (TabsAt w ta n TB TO A L C RB RO K X)) :
    Calls Try.prog 11 #[.agg #[.int .i64 u.k, .int .i64 u.n, .string u.s, .int .i64 u.a, .slice ta n cp], .int .i64 k] w fun e w' => (∃ q : Int, e = .returned (.int .i64 q) ∧ q ≤ k ∧ (0 ≤ q → u.s.size ≤ 1048576 ∧ n ≤ 1048576 ∧ Small 1048576 n L K X)) ∧ Below w.heap.size w w' := by
  have hb0 : Hid (Below w.heap.size w (w.alloc (Obj.cells #[.int .i64 u.k, .int .i64 u.n, .string u.s, .int .i64 u.a, .slice ta n cp] 26))) := (Below.refl _ _).alloc (Nat.le_refl _) _
  have hc : Hid (∀ w', Below (w.alloc (Obj.cells #[.int .i64 u.k, .int .i64 u.n, .string u.s, .int .i64 u.a, .slice ta n cp] 26)).heap.size (w.alloc (Obj.cells #[.int .i64 u.k, .int .i64 u.n, .string u.s, .int .i64 u.a, .slice ta n cp] 26)) w' →
      w'.cell? ⟨w.heap.size, 4, none⟩ = some (.slice ta n cp)) := show ∀ w', _ from fun w' h => by
    rw [h.cell (by simp)]; simp [World.cell?_alloc_new]
  have HT0 : Hid (TabsAt (w.alloc (Obj.cells #[.int .i64 u.k, .int .i64 u.n, .string u.s, .int .i64 u.a, .slice ta n cp] 26)) ta n TB TO A L C RB RO K X) := HT.out.below hb0.out
  go_enter Try.func11, Try.ntmps11
  go_wp2_with fail
  refine (szVal_any u k _ hk0 hk1 hu).mono ?_
  rintro e w1 ⟨rfl, hb1⟩
  have c4 := hc.out w1 hb1
  have HW1 : Hid (Below w.heap.size w w1) := grw hb0.out hb1
  have HT1 : Hid (TabsAt w1 ta n TB TO A L C RB RO K X) := HT0.out.below hb1
  clear hc hb1 hb0 HT0 HT
  by_cases h1 : k < u.s.size
  · rw [if_pos h1]
    go_wp2
    go_ret
    exact ⟨⟨_, rfl, by omega, by omega⟩, HW1.out⟩
  · rw [if_neg h1]
    have hn1 : ¬ k - u.s.size < 0 := by omega
    have hz := szTableS_any ta n cp TB TO A L C RB RO K X (k - u.s.size) w1 (by omega) (by omega) hn HS HT1
    go_wp2_with fail
    refine hz.mono ?_
    clear hz
    rintro e w2 ⟨⟨q1, rfl, hq2, hq3⟩, hb2⟩
    have HW2 : Hid (Below w.heap.size w w2) := grw HW1.out hb2
    have HQ3 : Hid _ := hq3
    clear hb2 HW1 c4 hq3 HT1
    by_cases hq : q1 < 0
    · go_wp2
      go_ret
      exact ⟨⟨_, rfl, by omega, by omega⟩, HW2.out⟩
    · go_wp2
      go_ret
      exact ⟨⟨_, rfl, by omega, fun h => ⟨by omega, HQ3.out h⟩⟩, HW2.out⟩

end Go.Proofs.Ytagalpfmpdeifab
