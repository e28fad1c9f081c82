import Derived.Test.YtgflalfiopnmnaaGreatDoorVlCmp
namespace Go.Proofs.YtgflalfiopnmnaaGreatDoor
open Go.RowKit Vl

theorem bl_step {a b : ByteArray} {i : Nat} (h1 : i < a.size) (h2 : i < b.size) :
    Op.bytesLess (a.toList.drop i) (b.toList.drop i) = (decide (a[i].toNat < b[i].toNat) || (a[i].toNat == b[i].toNat && Op.bytesLess (a.toList.drop (i + 1)) (b.toList.drop (i + 1)))) := by
  have e1 : a.toList.drop i = a[i] :: a.toList.drop (i + 1) := by
    rw [ByteArray.toList_eq]
    have : i < a.data.toList.length := by simpa using h1
    rw [List.drop_eq_getElem_cons this]
    rfl
  have e2 : b.toList.drop i = b[i] :: b.toList.drop (i + 1) := by
    rw [ByteArray.toList_eq]
    have : i < b.data.toList.length := by simpa using h2
    rw [List.drop_eq_getElem_cons this]
    rfl
  rw [e1, e2, Op.bytesLess]
  congr 1
  congr 1
  rw [Bool.eq_iff_iff]
  simp only [beq_iff_eq]
  exact UInt8.toNat_inj.symm

theorem len_list (a : ByteArray) : a.toList.length = a.size := by rw [ByteArray.toList_eq]; rfl

theorem bl_end {a b : ByteArray} {i : Nat} (h : ¬ (i < a.size ∧ i < b.size)) (hi : i ≤ a.size) (hi' : i ≤ b.size) :
    Op.bytesLess (a.toList.drop i) (b.toList.drop i) = decide ((a.size : Int) < b.size) := by
  by_cases h1 : i < a.size
  · have h2 : i = b.size := by omega
    have e : b.toList.drop i = [] := List.drop_eq_nil_of_le (by rw [len_list]; omega)
    rw [e]
    have : ¬ (a.size : Int) < b.size := by omega
    cases a.toList.drop i <;> simp [Op.bytesLess, this]
  · have h2 : i = a.size := by omega
    have e : a.toList.drop i = [] := List.drop_eq_nil_of_le (by rw [len_list]; omega)
    rw [e]
    by_cases h3 : i < b.size
    · have : (a.size : Int) < b.size := by omega
      have hne : b.toList.drop i ≠ [] := fun e' => by
        have := congrArg List.length e'
        simp [len_list] at this
        omega
      cases hb : b.toList.drop i with
      | nil => exact absurd hb hne
      | cons x y => simp [Op.bytesLess, this]
    · have e' : b.toList.drop i = [] := List.drop_eq_nil_of_le (by rw [len_list]; omega)
      have : ¬ (a.size : Int) < b.size := by omega
      rw [e']
      simp [Op.bytesLess, this]

set_option maxHeartbeats 1000000 in
set_option maxRecDepth 100000 in
/-- 'l2less'. -/
theorem l2less_any (u v : V) (w : World) (hu : u.s.size ≤ 9223372036854775807) :
    Calls Tryz.prog 123 #[.agg #[.int .i64 u.k, .int .i64 u.n, .string u.s, .int .i64 u.a], .agg #[.int .i64 v.k, .int .i64 v.n, .string v.s, .int .i64 v.a]] w fun e w' => e = .returned (.bool (less u v)) ∧ Below w.heap.size w w' := by
  obtain ⟨k, n, s, a⟩ := u
  obtain ⟨k', n', s', a'⟩ := v
  simp only at hu ⊢
  have hb0 : Hid (Below w.heap.size w ((w.alloc (Obj.cells #[.int .i64 k, .int .i64 n, .string s, .int .i64 a] 24)).alloc (Obj.cells #[.int .i64 k', .int .i64 n', .string s', .int .i64 a'] 24))) := ((Below.refl _ _).alloc (Nat.le_refl _) _).alloc (by simp) _
  unfold less
  simp only
  by_cases hk : k = k'
  · subst hk
    rw [if_pos rfl]
    by_cases h3 : k = 3
    · subst h3
      rw [if_pos rfl]
      obtain ⟨r, HR⟩ : ∃ r, Hid (Op.bytesLess s.toList s'.toList = r) := ⟨_, rfl⟩
      rw [HR.out]
      go_enter Tryz.func123, Tryz.ntmps123
      go_wp2
      go_loopw [5] (fun i wr => ∃ (j : Nat), j ≤ s.size ∧ j ≤ s'.size ∧ i = .int .i64 j ∧ Hid (Op.bytesLess (s.toList.drop j) (s'.toList.drop j) = r) ∧ Hid (ValAt wr w.heap.size 0 3 n s a) ∧ Hid (ValAt wr (w.heap.size + 1) 0 3 n' s' a') ∧ Hid (Below w.heap.size w wr)) (fun i _ => s.size - (intOf i).toNat)
      case atStart =>
        refine ⟨0, by omega, by omega, rfl, by simpa using HR, ?_, ?_, hb0⟩
        · exact (ValAt.new w 3 n s a).below ((Below.refl _ _).alloc (Nat.le_refl _) _)
        · have := ValAt.new (w.alloc (Obj.cells #[.int .i64 3, .int .i64 n, .string s, .int .i64 a] 24)) 3 n' s' a'
          have e : (w.alloc (Obj.cells #[.int .i64 3, .int .i64 n, .string s, .int .i64 a] 24)).heap.size = w.heap.size + 1 := by simp
          rw [e] at this
          exact this
      case round =>
        obtain ⟨j, hj, hj', rfl, HJ, HA, HB, HW⟩ := hrel
        clear hb0 HR
        have c2 := HA.out.2.2.1
        have d2 := HB.out.2.2.1
        simp only [Nat.zero_add] at c2 d2
        by_cases h1 : j < s.size
        · by_cases h2 : j < s'.size
          · have e := HJ.out
            rw [bl_step h1 h2] at e
            by_cases hxy : s[j].toNat = s'[j].toNat
            · have hne : (((s[j].toNat : Nat) : Int) != ((s'[j].toNat : Nat) : Int)) = false := by simp [hxy]
              have HE : Hid (Op.bytesLess (s.toList.drop (j + 1)) (s'.toList.drop (j + 1)) = r) := by
                rw [hxy] at e
                have e2 : Op.bytesLess (s.toList.drop (j + 1)) (s'.toList.drop (j + 1)) = r := by simpa using e
                exact e2
              clear e hxy HJ
              go_wp2
              go_quiet (fail)
              go_wp2
              go_roundw
              case rel =>
                have hd := below_drewN (Below.refl wr.heap.size wr) nq
                exact ⟨j + 1, by omega, by omega, by go_num, HE, HA.out.below hd, HB.out.below hd, below_drewN HW.out nq⟩
              case measure => simp [intOf]; omega
            · have hne : (((s[j].toNat : Nat) : Int) != ((s'[j].toNat : Nat) : Int)) = true := by
                simp only [bne_iff_ne, ne_eq]; omega
              have HE : Hid (decide (((s[j].toNat : Nat) : Int) < ((s'[j].toNat : Nat) : Int)) = r) := by
                have : (s[j].toNat == s'[j].toNat) = false := by simpa using hxy
                rw [this, Bool.false_and, Bool.or_false] at e
                rw [← e]
                show decide _ = decide _
                rw [decide_eq_decide]
                omega
              clear e hxy HJ
              go_wp2
              go_quiet (fail)
              go_wp2
              go_quiet (fail)
              go_wp2
              go_ret
              refine ⟨?_, ?_⟩
              · exact congrArg (fun b => Ending.returned (.bool b)) (show _ = _ by rw [← HE.out]; first | rfl | (show decide _ = decide _; rw [decide_eq_decide]; omega))
              · first | exact below_drewN (below_drewN HW.out _) _ | exact below_drewN HW.out _
          · have e := HJ.out
            rw [bl_end (fun h => h2 h.2) hj hj'] at e
            have HE : Hid (decide ((s.size : Int) < (s'.size : Int)) = r) := e
            clear e HJ
            go_wp2
            go_ret
            exact ⟨congrArg (fun b => Ending.returned (.bool b)) (show _ = _ by rw [← HE.out]; first | rfl | (show decide _ = decide _; rw [decide_eq_decide]; omega)), HW.out⟩
        · have e := HJ.out
          rw [bl_end (fun h => h1 h.1) hj hj'] at e
          have HE : Hid (decide ((s.size : Int) < (s'.size : Int)) = r) := e
          clear e HJ
          go_wp2
          go_ret
          exact ⟨congrArg (fun b => Ending.returned (.bool b)) (show _ = _ by rw [← HE.out]; first | rfl | (show decide _ = decide _; rw [decide_eq_decide]; omega)), HW.out⟩
    · rw [if_neg h3]
      have hk3 : (k != 3) = true := by simpa using h3
      go_enter Tryz.func123, Tryz.ntmps123
      go_wp2
      go_ret
      exact ⟨rfl, hb0.out⟩
  · rw [if_neg hk]
    have hk3 : (k != k') = true := by simpa using hk
    go_enter Tryz.func123, Tryz.ntmps123
    go_wp2
    go_ret
    exact ⟨rfl, hb0.out⟩

end Go.Proofs.YtgflalfiopnmnaaGreatDoor
