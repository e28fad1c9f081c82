import Derived.Test.YtgflalfiopnmnaaGreatDoorVlOf
namespace Go.Proofs.YtgflalfiopnmnaaGreatDoor
open Go.RowKit Vl

theorem meth_0 (w : World) (f : Nat) : (method (f + 3) 180 (.agg #[]) "loop.example/cloth/impl.asVal").run Tryz.prog w = .ok (213, .agg #[]) w := by kernel_rfl
theorem meth_1 (b : Bool) (w : World) (f : Nat) : (method (f + 3) 232 (.agg #[.bool b]) "loop.example/cloth/impl.asVal").run Tryz.prog w = .ok (225, .agg #[.bool b]) w := by kernel_rfl
theorem meth_2 (n : Int) (w : World) (f : Nat) : (method (f + 3) 234 (.agg #[.int .i64 n]) "loop.example/cloth/impl.asVal").run Tryz.prog w = .ok (226, .agg #[.int .i64 n]) w := by kernel_rfl
theorem meth_3 (s : ByteArray) (w : World) (f : Nat) : (method (f + 3) 236 (.agg #[.string s]) "loop.example/cloth/impl.asVal").run Tryz.prog w = .ok (227, .agg #[.string s]) w := by kernel_rfl
theorem meth_4 (b : Nat) (w : World) (f : Nat) : (method (f + 3) 107 (.pointer (some ⟨b, 0, none⟩)) "loop.example/cloth/impl.asVal").run Tryz.prog w = .ok (209, .pointer (some ⟨b, 0, none⟩)) w := by kernel_rfl

/-- 'valueOf'. -/
theorem of_any (v : V) (ta : Option Addr) (tb m cp : Nat) (T : Nat → Nat) (w : World) (H : Hid (Tabs w ta tb m T)) :
    Calls Tryz.prog 51 #[.agg #[.int .i64 v.k, .int .i64 v.n, .string v.s, .int .i64 v.a], .slice ta m cp] w fun e w' => e = .returned (.tuple #[if isV m v then ifv T v else .nilIface, .bool (isV m v)]) ∧ Below w.heap.size w w' := by
  obtain ⟨k, n, s, a⟩ := v
  simp only
  have eq0 : ∀ x : Int, ((0 : Int) == x) = (x == 0) := fun x => Bool.eq_iff_iff.2 (by simp only [beq_iff_eq]; exact eq_comm)
  have eqs : (([] : List UInt8) == s.toList) = (s.toList == []) := Bool.eq_iff_iff.2 (by simp only [beq_iff_eq]; exact eq_comm)
  have hes : (ByteArray.mk #[]).toList = [] := by rw [ByteArray.toList_eq]
  by_cases k0 : k = 0
  · subst k0
    refine (of_yes 0 n s a 0 0 ⟨#[]⟩ 0 _ _ _ ta m cp w (fun w0 _ => nf_0 n s a ta m cp w0) meth_0 Tryz.call213 (fun w0 _ => asNil_any w0) (isV m ⟨0, n, s, a⟩) ?_).mono ?_
    · rw [hes, eq0 n, eq0 a, eqs]; rfl
    · rintro e w' ⟨rfl, h⟩
      exact ⟨rfl, h⟩
  by_cases k1 : k = 1
  · subst k1
    refine (of_yes 1 n s a 1 (if (n == 1) then 1 else 0) ⟨#[]⟩ 0 _ _ _ ta m cp w (fun w0 _ => nf_1 n s a ta m cp w0) (meth_1 _) Tryz.call225 (fun w0 _ => asBool_any _ w0) (isV m ⟨1, n, s, a⟩) ?_).mono ?_
    · rw [hes, eq0 a, eqs]
      show (true && (((if (n == 1) = true then (1 : Int) else 0) == n) && _)) = ((n == 0 || n == 1) && _)
      by_cases h1 : n = 1
      · subst h1; rfl
      · have : (n == 1) = false := by simpa using h1
        rw [this, if_neg (by simp), eq0 n, Bool.or_false, Bool.true_and]
    · rintro e w' ⟨rfl, h⟩
      exact ⟨rfl, h⟩
  by_cases k2 : k = 2
  · subst k2
    refine (of_yes 2 n s a 2 n ⟨#[]⟩ 0 _ _ _ ta m cp w (fun w0 _ => nf_2 n s a ta m cp w0) (meth_2 _) Tryz.call226 (fun w0 _ => asInt_any _ w0) (isV m ⟨2, n, s, a⟩) ?_).mono ?_
    · rw [hes, eq0 a, eqs, beq_self_eq_true n]; rfl
    · rintro e w' ⟨rfl, h⟩
      exact ⟨rfl, h⟩
  by_cases k3 : k = 3
  · subst k3
    by_cases hs : (s.size : Int) ≤ 500
    · have hd : decide ((s.size : Int) ≤ 500) = true := by simpa using hs
      refine (of_yes 3 n s a 3 0 s 0 _ _ _ ta m cp w (fun w0 _ => hd ▸ nf_3 n s a ta m cp w0) (meth_3 _) Tryz.call227 (fun w0 _ => asText_any _ w0) (isV m ⟨3, n, s, a⟩) ?_).mono ?_
      · rw [eq0 a, eq0 n, beq_self_eq_true s.toList]
        have hd' : decide (s.size ≤ 500) = true := by simpa using (by omega : s.size ≤ 500)
        show (true && (n == 0 && (true && a == 0))) = (n == 0 && (a == 0 && decide (s.size ≤ 500)))
        rw [hd', Bool.and_true, Bool.true_and, Bool.true_and]
      · rintro e w' ⟨rfl, h⟩
        exact ⟨rfl, h⟩
    · have hd : decide ((s.size : Int) ≤ 500) = false := by simpa using hs
      have hno : isV m ⟨3, n, s, a⟩ = false := by
        have hd' : decide (s.size ≤ 500) = false := by simpa using (by omega : ¬ s.size ≤ 500)
        show (n == 0 && (a == 0 && decide (s.size ≤ 500))) = false
        rw [hd', Bool.and_false, Bool.and_false]
      rw [hno]
      exact of_no 3 n s a _ ta m cp w (fun w0 _ => hd ▸ nf_3 n s a ta m cp w0)
  by_cases k4 : k = 4
  · subst k4
    by_cases ha : 0 ≤ a ∧ a < m
    · refine (of_yes 4 n s a 4 0 ⟨#[]⟩ a _ _ _ ta m cp w (fun w0 hb => nf_4 n s a ta tb m cp T w0 ha.1 ha.2 (H.out.below hb)) (meth_4 _) Tryz.call209 (fun w0 hb => asTab_any _ a w0 ?_) (isV m ⟨4, n, s, a⟩) ?_).mono ?_
      · have := (H.out.below hb).at_ a.toNat (by omega)
        rw [this]; congr 2; omega
      · rw [hes, eq0 n, eqs, beq_self_eq_true a]
        have h1 : decide (0 ≤ a) = true := by simpa using ha.1
        have h2 : decide (a < m) = true := by simpa using ha.2
        show (true && (n == 0 && (s.toList == [] && true))) = (n == 0 && (s.toList == [] && (decide (0 ≤ a) && decide (a < m))))
        rw [h1, h2]; rfl
      · rintro e w' ⟨rfl, h⟩
        exact ⟨rfl, h⟩
    · have hno : isV m ⟨4, n, s, a⟩ = false := by
        have hd : (decide (0 ≤ a) && decide (a < m)) = false := by
          rw [← Bool.decide_and]; simpa using ha
        show (n == 0 && (s.toList == [] && (decide (0 ≤ a) && decide (a < m)))) = false
        rw [hd, Bool.and_false, Bool.and_false]
      rw [hno]
      exact of_no 4 n s a _ ta m cp w (fun w0 _ => nf_4no n s a ta m cp w0 ha)
  · have hno : isV m ⟨k, n, s, a⟩ = false := by simp [isV, k0, k1, k2, k3, k4]
    rw [hno]
    exact of_no k n s a _ ta m cp w (fun w0 _ => nf_no k n s a ta m cp w0 (by simpa using k0) (by simpa using k1) (by simpa using k2) (by simpa using k3) (by simpa using k4))

theorem isKey_of (k n : Int) (s : ByteArray) (a : Int) (w : World) (x : Value) (t : TypeId) (b b1 b2 b3 : Bool) (y1 y2 y3 : Value) (hb : (b1 || (b2 || b3)) = b)
    (h1 : ∀ w, (Instr.typeAssert (.iface t x) 54 232 true).run Tryz.prog w = .ok (.tuple #[y1, .bool b1]) w)
    (h2 : ∀ w, (Instr.typeAssert (.iface t x) 54 234 true).run Tryz.prog w = .ok (.tuple #[y2, .bool b2]) w)
    (h3 : ∀ w, (Instr.typeAssert (.iface t x) 54 236 true).run Tryz.prog w = .ok (.tuple #[y3, .bool b3]) w)
    (hof : ∀ w, Calls Tryz.prog 51 #[.agg #[.int .i64 k, .int .i64 n, .string s, .int .i64 a], .slice none 0 0] w fun e w' => e = .returned (.tuple #[.iface t x, .bool true]) ∧ Below w.heap.size w w') :
    Calls Tryz.prog 87 #[.agg #[.int .i64 k, .int .i64 n, .string s, .int .i64 a]] w fun e w' => e = .returned (.bool b) ∧ Below w.heap.size w w' := by
  have hb0 : Hid (Below w.heap.size w (w.alloc (Obj.cells #[.int .i64 k, .int .i64 n, .string s, .int .i64 a] 24))) := (Below.refl _ _).alloc (Nat.le_refl _) _
  subst hb
  go_enter Tryz.func87, Tryz.ntmps87
  go_wp2_with fail
  refine (hof _).mono ?_
  rintro e w1 ⟨rfl, hb1⟩
  have HB : Hid (Below w.heap.size w w1) := grw hb0.out hb1
  clear hb1 hof hb0
  cases b1 <;> cases b2 <;> cases b3
  all_goals
    go_wp2
    go_ret
    exact ⟨rfl, HB.out⟩

/-- 'isKey'. -/
theorem isKey_any (v : V) (w : World) :
    Calls Tryz.prog 87 #[.agg #[.int .i64 v.k, .int .i64 v.n, .string v.s, .int .i64 v.a]] w fun e w' => e = .returned (.bool (isK v)) ∧ Below w.heap.size w w' := by
  obtain ⟨k, n, s, a⟩ := v
  simp only
  have hof := fun w => of_any ⟨k, n, s, a⟩ none 0 0 0 (fun _ => 0) w (Tabs.nil _)
  obtain ⟨b, hbv⟩ : ∃ b, isV 0 ⟨k, n, s, a⟩ = b := ⟨_, rfl⟩
  simp only [hbv] at hof
  cases b
  · have hno : isK ⟨k, n, s, a⟩ = false := by simp [isK, hbv]
    rw [hno]
    clear hbv hno
    have hb0 : Hid (Below w.heap.size w (w.alloc (Obj.cells #[.int .i64 k, .int .i64 n, .string s, .int .i64 a] 24))) := (Below.refl _ _).alloc (Nat.le_refl _) _
    go_enter Tryz.func87, Tryz.ntmps87
    go_wp2_with fail
    refine (hof _).mono ?_
    rintro e w1 ⟨rfl, hb1⟩
    go_wp2
    go_ret
    exact ⟨rfl, grw hb0.out hb1⟩
  · have hk : isK ⟨k, n, s, a⟩ = (k == 1 || k == 2 || k == 3) := by simp [isK, hbv]
    rw [hk]
    by_cases k0 : k = 0
    · subst k0
      exact isKey_of 0 n s a w _ _ _ false false false (.agg #[.bool false]) (.agg #[.int .i64 0]) (.agg #[.string ⟨#[]⟩]) rfl (fun _ => by kernel_rfl) (fun _ => by kernel_rfl) (fun _ => by kernel_rfl) hof
    by_cases k1 : k = 1
    · subst k1
      exact isKey_of 1 n s a w _ _ _ true false false (.agg #[.bool (n == 1)]) (.agg #[.int .i64 0]) (.agg #[.string ⟨#[]⟩]) rfl (fun _ => by kernel_rfl) (fun _ => by kernel_rfl) (fun _ => by kernel_rfl) hof
    by_cases k2 : k = 2
    · subst k2
      exact isKey_of 2 n s a w _ _ _ false true false (.agg #[.bool false]) (.agg #[.int .i64 n]) (.agg #[.string ⟨#[]⟩]) rfl (fun _ => by kernel_rfl) (fun _ => by kernel_rfl) (fun _ => by kernel_rfl) hof
    by_cases k3 : k = 3
    · subst k3
      exact isKey_of 3 n s a w _ _ _ false false true (.agg #[.bool false]) (.agg #[.int .i64 0]) (.agg #[.string s]) rfl (fun _ => by kernel_rfl) (fun _ => by kernel_rfl) (fun _ => by kernel_rfl) hof
    · exfalso
      by_cases k4 : k = 4
      · subst k4
        have : (n == 0 && (s.toList == [] && (decide (0 ≤ a) && decide (a < ((0 : Nat) : Int))))) = true := hbv
        simp at this
        omega
      · simp [isV, k0, k1, k2, k3, k4] at hbv

end Go.Proofs.YtgflalfiopnmnaaGreatDoor
