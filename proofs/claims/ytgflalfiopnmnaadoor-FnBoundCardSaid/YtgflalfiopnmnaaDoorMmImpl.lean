import Derived.Test.YtgflalfiopnmnaaDoorMmSpec
import Derived.WalkLawsBesides
namespace Go.Proofs.YtgflalfiopnmnaaDoor
open Go.RowKit Mm

theorem clos_any (b : Nat) (f a : Nat) (m t : Int) (w : World) (h1 : f < t) (h2 : t ≤ 200) (h3 : a ≤ 100000000) (hv : w.heap[b]? = some (.cells #[.int .i64 a] 3 (0, 0))) :
    Calls Tryd.prog 31 #[.int .i64 f, .int .i64 m, .int .i64 t, .pointer (some ⟨b, 0, none⟩)] w fun e w' => e = .returned (.tuple #[]) ∧ w' = w.setCell ⟨b, 0, none⟩ (.int .i64 (a + (t - f - 1))) := by
  have hc := cell_of_one hv
  have hf := free_of_one hv
  clear hv
  go_enter Tryd.func31, Tryd.ntmps31
  go_wp2
  go_end0
  exact ⟨rfl, rfl⟩

set_option maxHeartbeats 1000000 in
theorem each_most (n : Nat) (hn : n ≤ 200) (b : Nat) (w : World) (hv : w.heap[b]? = some (.cells #[.int .i64 0] 3 (0, 0))) :
    Calls Tryd.prog 30 #[.int .i64 n, .func (.func 31) #[] #[.pointer (some ⟨b, 0, none⟩)]] w fun e w' => e = .returned (.tuple #[]) ∧ w'.heap[b]? = some (.cells #[.int .i64 (outer n 1 0 : Nat)] 3 (0, 0)) ∧ Below b w w' := by
  obtain ⟨V, HV⟩ : ∃ V, Hid (outer n 1 0 = V) := ⟨_, rfl⟩
  rw [HV.out]
  go_enter Tryd.func30, Tryd.ntmps30
  go_wp2
  go_loopw [4] (fun t wr => ∃ s a : Nat, 0 < s ∧ s ≤ 400 ∧ a ≤ 100000 * s ∧ t = .int .i64 s ∧ wr.heap[b]? = some (.cells #[.int .i64 a] 3 (0, 0)) ∧ Below b w wr ∧ Hid (outer n s a = V)) (fun t _ => 400 - (intOf t).toNat)
  case atStart => exact ⟨1, 0, by omega, by omega, by omega, rfl, hv, Below.refl _ _, HV⟩
  case round =>
    obtain ⟨s, a, hs0, hs1, ha, rfl, hcell, hbel, HO⟩ := hrel
    by_cases hlt : s < n
    · obtain ⟨U, HU⟩ : ∃ U, Hid (inner n s 0 a = U) := ⟨_, rfl⟩
      have HN : Hid (outer n (2 * s) U = V) := by rw [← HU.out, ← outer_yes hlt hs0]; exact HO
      clear HO
      obtain ⟨wo, rfl⟩ : ∃ wo : World, wo = wr := ⟨_, rfl⟩
      have HC : Hid (wo.heap[b]? = some (.cells #[.int .i64 a] 3 (0, 0))) := hcell
      clear hcell
      go_wp2
      go_loopw [5] (fun t wr => ∃ f c : Nat, f ≤ 600 ∧ f < n + s ∧ c ≤ 100000 * s + 200 * f ∧ t = .int .i64 f ∧ wr.heap[b]? = some (.cells #[.int .i64 c] 3 (0, 0)) ∧ Below b w wr ∧ Hid (inner n s f c = U)) (fun t _ => 600 - (intOf t).toNat)
      case atStart => exact ⟨0, a, by omega, by omega, by omega, rfl, HC.out, hbel, HU⟩
      case round =>
        obtain ⟨f, c, hf0, hf1, hb, rfl, hcl, hbl, HI⟩ := hrel
        by_cases hfl : f + s < n
        · have HM : Hid (inner n s (f + 2 * s) (c + (min (f + 2 * s) n - f - 1)) = U) := by rw [← inner_yes hfl hs0]; exact HI
          clear HI
          have HCL : Hid (wr.heap[b]? = some (.cells #[.int .i64 c] 3 (0, 0))) := hcl
          clear hcl
          by_cases hg : n < f + 2 * s
          all_goals
            go_wp2_with fail
            refine (clos_any b f c _ _ wr (by omega) (by omega) (by omega) HCL.out).mono ?_
            rintro e w1 ⟨rfl, hw1⟩
            have R : w1.heap[b]? = some (.cells #[.int .i64 (c + (min (f + 2 * s) n - f - 1) : Nat)] 3 (0, 0)) ∧ Below b w w1 := by
              subst hw1
              refine ⟨?_, hbl.setCell (Nat.le_refl _) _⟩
              rw [one_setCell HCL.out]
              congr 4
              go_num
            have HR := R.1
            have HB := R.2
            clear hw1 R
            have HR' : Hid _ := HR
            clear HR
            go_wp2
            go_roundw
            case rel => exact ⟨f + 2 * s, c + (min (f + 2 * s) n - f - 1), by omega, by omega, by omega, by go_num, HR'.out, HB, HM⟩
            case measure => simp [intOf]; omega
        · have HE : Hid (c = U) := by rw [← HI.out, inner_no hfl]; rfl
          clear HI
          go_wp2
          go_roundw
          case rel => exact ⟨2 * s, c, by omega, by omega, by omega, by go_num, hcl, hbl, by rw [HE.out]; exact HN⟩
          case measure => simp [intOf]; omega
    · have HE : Hid (a = V) := by rw [← HO.out, outer_no hlt]; rfl
      clear HO
      go_wp2
      go_end0
      exact ⟨rfl, by rw [← HE.out]; exact hcell, hbel⟩

set_option maxHeartbeats 400000 in
theorem implMost_no (a : Int) (h : a < 0 ∨ 200 < a) (w : World) :
    Calls Tryd.prog 12 #[.int .i64 a] w fun e w' => e = .returned (.int .i64 (-1)) ∧ w' = w := by
  by_cases h0 : a < 0
  · go_enter Tryd.func12, Tryd.ntmps12
    go_wp2
    go_ret
    exact ⟨rfl, rfl⟩
  · have h1 : 200 < a := by omega
    go_enter Tryd.func12, Tryd.ntmps12
    go_wp2
    go_ret
    exact ⟨rfl, rfl⟩

set_option maxHeartbeats 1000000 in
theorem implMost_yes (n : Nat) (hn : n ≤ 200) (w : World) :
    Calls Tryd.prog 12 #[.int .i64 n] w fun e w' => e = .returned (.int .i64 (outer n 1 0 : Nat)) ∧ Below w.heap.size w w' := by
  have hmf : ∀ (fn : Fn) (first cap : Array Value) (w : World), (Instr.makeFunc fn first cap).run Tryd.prog w = .ok (.func fn first cap) w := fun _ _ _ _ => rfl
  go_enter Tryd.func12, Tryd.ntmps12
  go_wp2_with fail
  refine (each_most n hn w.heap.size _ ?hv).mono ?_
  case hv => exact heap_alloc_new _ _
  rintro e w1 ⟨rfl, hv, hb⟩
  have hc := cell_of_one hv
  clear hv
  go_wp2
  go_ret
  exact ⟨rfl, ((Below.refl _ _).alloc (Nat.le_refl _) _).trans hb⟩

end Go.Proofs.YtgflalfiopnmnaaDoor
