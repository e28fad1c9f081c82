import Derived.Test.YtgflalfiopnmnaaDoorRkSq
import Derived.LoopN
namespace Go.Proofs.YtgflalfiopnmnaaDoor
open Go.RowKit Rk

theorem MatR.topAt {w : World} {gb go n : Nat} {A : Nat → Option Addr} {L C RB RO : Nat → Nat} {M : Nat → Nat → Int} (h : MatR w gb go n A L C RB RO M) (s : Sq n L M) {r : Nat} (hr : r < n) :
    w.cell? ⟨gb, go + r, none⟩ = some (.slice (some ⟨RB r, RO r, none⟩) n (C r)) := by
  have e := (s.2 r hr).1
  rw [h.top r hr, (h.row r hr 0 (by omega)).1, e]
theorem MatR.valAt {w : World} {gb go n : Nat} {A : Nat → Option Addr} {L C RB RO : Nat → Nat} {M : Nat → Nat → Int} (h : MatR w gb go n A L C RB RO M) (s : Sq n L M) {r c : Nat} (hr : r < n) (hc : c < n) :
    w.cell? ⟨RB r, RO r + c, none⟩ = some (.int .i64 (M r c)) := (h.row r hr c (by rw [(s.2 r hr).1]; exact hc)).2
theorem sq_three {n : Nat} {L : Nat → Nat} {M : Nat → Nat → Int} (s : Sq n L M) {r c : Nat} (hr : r < n) (hc : c < n) : M r c = 0 ∨ M r c = 1 ∨ M r c = 2 := by
  have := (s.2 r hr).2 c hc; omega

/-- What is asked of a and b, at c. -/
def Pc (M : Nat → Nat → Int) (a b c : Nat) : Prop := ¬ (M b c = 0 ∧ M a c = 1)
def Pb (n : Nat) (M : Nat → Nat → Int) (a b : Nat) : Prop := ¬ M a b = 2 ∧ ¬ (M a b = 1 ∧ M b a = 1) ∧ (M a b = 0 → ∀ c, c < n → Pc M a b c)

theorem no2 {n : Nat} {M : Nat → Nat → Int} {a b : Nat} (ha : a < n) (hb : b < n) (h : M a b = 2) : ¬ Rkd n M := fun r => (r a ha b hb).1 h
theorem no11 {n : Nat} {M : Nat → Nat → Int} {a b : Nat} (ha : a < n) (hb : b < n) (h : M a b = 1) (h' : M b a = 1) : ¬ Rkd n M := fun r => (r a ha b hb).2.1 ⟨h, h'⟩
theorem no001 {n : Nat} {M : Nat → Nat → Int} {a b c : Nat} (ha : a < n) (hb : b < n) (hc : c < n) (h : M a b = 0) (h' : M b c = 0) (h'' : M a c = 1) : ¬ Rkd n M := fun r => (r a ha b hb).2.2 h c hc ⟨h', h''⟩

set_option maxHeartbeats 2000000 in
set_option maxRecDepth 100000 in
/-- 'spec.Ranked' of a square. -/
theorem specRk_any (ga : Option Addr) (gb go n cp : Nat) (A : Nat → Option Addr) (L C RB RO : Nat → Nat) (M : Nat → Nat → Int) (w : World) (hga : 0 < n → ga = some ⟨gb, go, none⟩)
    (hn : n ≤ 1048576) (hL : ∀ r, r < n → L r ≤ 1048576) (hM : MatR w gb go n A L C RB RO M) :
    Calls Tryd.prog 13 #[.slice ga n cp] w fun e w' => Says (Sq n L M ∧ Rkd n M) e ∧ w' = w := by
  go_enter Tryd.func13, Tryd.ntmps13
  go_wp2_with fail
  refine (specSq_any ga gb go n cp A L C RB RO M w hga hn hL hM).mono ?_
  rintro e w1 ⟨⟨b, rfl, hb⟩, hw1⟩
  subst hw1
  cases b
  · have hno : ¬ Sq n L M := by simpa using hb
    clear hb
    go_wp2
    go_ret
    exact ⟨says_false fun s => hno s.1, rfl⟩
  · have hs : Sq n L M := by simpa using hb
    have h200 : n ≤ 200 := hs.1
    have HS : Hid (Sq n L M) := hs
    have HM : Hid (MatR w1 gb go n A L C RB RO M) := hM
    clear hb hL hs hM
    go_wp2
    go_loop [4] (fun i => ∃ a : Nat, a ≤ n ∧ i = .int .i64 a ∧ Hid (∀ x, x < a → ∀ y, y < n → Pb n M x y)) (fun i => n - (intOf i).toNat)
    case atStart => exact ⟨0, Nat.zero_le _, rfl, fun r hr => absurd hr (Nat.not_lt_zero _)⟩
    case round =>
      obtain ⟨a, ha, rfl, HA⟩ := hrel
      by_cases hal : a < n
      · obtain rfl := hga (by omega)
        go_wp2
        go_loop [5] (fun i => ∃ b : Nat, b ≤ n ∧ i = .int .i64 b ∧ Hid (∀ y, y < b → Pb n M a y)) (fun i => n - (intOf i).toNat)
        case atStart => exact ⟨0, Nat.zero_le _, rfl, fun r hr => absurd hr (Nat.not_lt_zero _)⟩
        case round =>
          obtain ⟨b, hb, rfl, HB⟩ := hrel
          by_cases hbl : b < n
          · have ta := HM.out.topAt HS.out hal
            have tb := HM.out.topAt HS.out hbl
            have vab := HM.out.valAt HS.out hal hbl
            have vba := HM.out.valAt HS.out hbl hal
            rcases sq_three HS.out hal hbl with e | e | e
            · rw [e] at vab
              have E : Hid (M a b = 0) := e
              clear e
              go_wp2
              clear vba
              go_loop [6] (fun i => ∃ c : Nat, c ≤ n ∧ i = .int .i64 c ∧ Hid (∀ z, z < c → Pc M a b z)) (fun i => n - (intOf i).toNat)
              case atStart => exact ⟨0, Nat.zero_le _, rfl, fun r hr => absurd hr (Nat.not_lt_zero _)⟩
              case round =>
                obtain ⟨c, hc, rfl, HC⟩ := hrel
                by_cases hcl : c < n
                · have vbc := HM.out.valAt HS.out hbl hcl
                  have vac := HM.out.valAt HS.out hal hcl
                  by_cases e1 : M b c = 0
                  · by_cases e2 : M a c = 1
                    · rw [e1] at vbc
                      rw [e2] at vac
                      have HNO : Hid (¬ (Sq n L M ∧ Rkd n M)) := fun s => no001 hal hbl hcl E.out e1 e2 s.2
                      clear e1 e2
                      go_wp2
                      go_ret
                      exact ⟨says_false HNO.out, rfl⟩
                    · rw [e1] at vbc
                      have hne : (M a c == 1) = false := by simpa using e2
                      have HP : Hid (Pc M a b c) := fun x => e2 x.2
                      clear e1 e2
                      go_wp2
                      go_round
                      case rel => exact ⟨c + 1, by omega, by go_num, below_succ HC.out HP.out⟩
                      case measure => simp [intOf]; omega
                  · have hne : (M b c == 0) = false := by simpa using e1
                    have HP : Hid (Pc M a b c) := fun x => e1 x.1
                    clear e1
                    go_wp2
                    go_round
                    case rel => exact ⟨c + 1, by omega, by go_num, below_succ HC.out HP.out⟩
                    case measure => simp [intOf]; omega
                · have HC' : Hid (c = n) := show c = n by omega
                  go_wp2
                  go_round
                  case rel => exact ⟨b + 1, by omega, by go_num, below_succ HB.out ⟨by rw [E.out]; omega, by rw [E.out]; omega, fun _ => by rw [← HC'.out]; exact HC.out⟩⟩
                  case measure => simp [intOf]; omega
            · rw [e] at vab
              by_cases e2 : M b a = 1
              · rw [e2] at vba
                have HNO : Hid (¬ (Sq n L M ∧ Rkd n M)) := fun s => no11 hal hbl e e2 s.2
                clear e e2
                go_wp2
                go_ret
                exact ⟨says_false HNO.out, rfl⟩
              · have hne : (M b a == 1) = false := by simpa using e2
                have HP : Hid (Pb n M a b) := ⟨by rw [e]; omega, fun x => e2 x.2, fun x => by rw [e] at x; omega⟩
                clear e e2
                go_wp2
                refine wp_loop_rounds 1 ?_
                rw [rounds_succ]
                go_wp2
                go_round
                case rel => exact ⟨b + 1, by omega, by go_num, below_succ HB.out HP.out⟩
                case measure => simp [intOf]; omega
            · rw [e] at vab
              have HNO : Hid (¬ (Sq n L M ∧ Rkd n M)) := fun s => no2 hal hbl e s.2
              clear e
              go_wp2
              go_ret
              exact ⟨says_false HNO.out, rfl⟩
          · have HC : Hid (b = n) := show b = n by omega
            go_wp2
            go_round
            case rel => exact ⟨a + 1, by omega, by go_num, below_succ HA.out fun y hy => HB.out y (by have e := HC.out; omega)⟩
            case measure => simp [intOf]; omega
      · obtain rfl : a = n := by omega
        go_wp2
        go_ret
        exact ⟨says_true ⟨HS.out, HA.out⟩, rfl⟩

end Go.Proofs.YtgflalfiopnmnaaDoor
