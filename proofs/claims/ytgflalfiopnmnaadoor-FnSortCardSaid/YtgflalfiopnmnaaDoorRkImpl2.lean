import Derived.Test.YtgflalfiopnmnaaDoorRkImpl
namespace Go.Proofs.YtgflalfiopnmnaaDoor
open Go.RowKit Rk

def Row1 (n : Nat) (M : Nat → Nat → Int) (a b : Nat) : Prop := M a b = if rank n M a < rank n M b then 1 else 0

theorem cnd_no {n : Nat} {M : Nat → Nat → Int} {L : Nat → Nat} {a b : Nat} (ha : a < n) (hb : b < n) (h : ¬ Row1 n M a b) : ¬ (Sq n L M ∧ Rkd n M) := fun s => h ((cnd_iff s.1).2 s.2 a ha b hb)

set_option maxHeartbeats 2000000 in
set_option maxRecDepth 100000 in
/-- 'impl.Ranked'. -/
theorem implRk_any (ga : Option Addr) (gb go n cp : Nat) (A : Nat → Option Addr) (L C RB RO : Nat → Nat) (M : Nat → Nat → Int) (w : World) (hga : 0 < n → ga = some ⟨gb, go, none⟩)
    (hn : n ≤ 1048576) (hL : ∀ r, r < n → L r ≤ 1048576) (hM : MatR w gb go n A L C RB RO M) :
    Calls Tryd.prog 11 #[.slice ga n cp] w fun e w' => Says (Sq n L M ∧ Rkd n M) e ∧ Below w.heap.size w w' := by
  go_enter Tryd.func11, Tryd.ntmps11
  go_wp2_with fail
  refine (implSq_any ga gb go n cp A L C RB RO M w hga hn hL hM).mono ?_
  rintro e w1 ⟨⟨b, rfl, hb⟩, hw1⟩
  subst hw1
  cases b
  · have hno : ¬ Sq n L M := by simpa using hb
    clear hb
    go_wp2
    go_ret
    exact ⟨says_false fun s => hno s.1, Below.refl _ _⟩
  · have hs : Sq n L M := by simpa using hb
    have h200 : n ≤ 200 := hs.1
    have HS : Hid (Sq n L M) := hs
    have HM : Hid (MatR w1 gb go n A L C RB RO M) := hM
    clear hb hL hs hM
    go_wp2_with fail
    refine (counts_any ga gb go n cp A L C RB RO M w1 hga HS HM).mono ?_
    rintro e w2 ⟨rfl, hsz, hbel, hrow⟩
    have HM2 : Hid (MatR w2 gb go n A L C RB RO M) := HM.out.below hbel
    have HB : Hid (w2.heap.size = w1.heap.size + 1) := hsz
    have HR : Hid (w2.rowIs w1.heap.size 3 n (fun j => .int .i64 (rank n M j : Nat))) := hrow
    clear HM hsz hrow
    go_wp2
    go_loopw [16] (fun i wr => ∃ a m : Nat, a ≤ n ∧ i = .int .i64 a ∧ wr = w2.drewN m ∧ Hid (∀ x, x < a → ∀ y, y < n → Row1 n M x y)) (fun i _ => n - (intOf i).toNat)
    case atStart => exact ⟨0, 0, Nat.zero_le _, rfl, rfl, fun r hr => absurd hr (Nat.not_lt_zero _)⟩
    case round =>
      obtain ⟨a, m, ha, rfl, rfl, HA⟩ := hrel
      by_cases hal : a < n
      · obtain rfl := hga (by omega)
        have ta := HM2.out.topAt HS.out hal
        go_wp2
        go_loopw [23] (fun i wr => ∃ b m : Nat, b ≤ n ∧ i = .int .i64 b ∧ wr = w2.drewN m ∧ Hid (∀ y, y < b → Row1 n M a y)) (fun i _ => n - (intOf i).toNat)
        case atStart => exact ⟨0, m, Nat.zero_le _, rfl, rfl, fun r hr => absurd hr (Nat.not_lt_zero _)⟩
        case round =>
          obtain ⟨b, m', hb, rfl, rfl, HB'⟩ := hrel
          clear ta
          by_cases hbl : b < n
          · have vab := HM2.out.valAt HS.out hal hbl
            have ra := HR.out.cell hal
            have rb := HR.out.cell hbl
            obtain ⟨x, hx⟩ : ∃ x, rank n M a = x := ⟨_, rfl⟩
            obtain ⟨y, hy⟩ : ∃ y, rank n M b = y := ⟨_, rfl⟩
            rw [hx] at ra
            rw [hy] at rb
            have iax : (a : Int) < (n : Int) := by omega
            have iby : (b : Int) < (n : Int) := by omega
            by_cases hxy : x < y
            · have HRow : Hid (Row1 n M a b ↔ M a b = 1) := by
                show Row1 n M a b ↔ M a b = 1
                unfold Row1; rw [hx, hy, if_pos hxy]
              clear hx hy
              by_cases e : M a b = 1
              · have HP : Hid (Row1 n M a b) := HRow.out.2 e
                rw [e] at vab
                clear e HRow
                go_wp2_with fail
                go_quiet (fail)
                go_wp2
                go_roundw
                case rel => exact ⟨b + 1, m' + nq, by omega, by go_num, rfl, below_succ HB'.out HP.out⟩
                case measure => simp [intOf]; omega
              · have HP : Hid (¬ (Sq n L M ∧ Rkd n M)) := cnd_no hal hbl fun r => e (HRow.out.1 r)
                have hne : (M a b != 1) = true := by simpa using e
                clear e HRow
                go_wp2_with fail
                go_quiet (fail)
                go_wp2
                go_ret
                exact ⟨says_false HP.out, below_drewN hbel _⟩
            · have HRow : Hid (Row1 n M a b ↔ M a b = 0) := by
                show Row1 n M a b ↔ M a b = 0
                unfold Row1; rw [hx, hy, if_neg hxy]
              clear hx hy
              by_cases e : M a b = 0
              · have HP : Hid (Row1 n M a b) := HRow.out.2 e
                rw [e] at vab
                clear e HRow
                go_wp2_with fail
                go_quiet (fail)
                go_wp2
                go_roundw
                case rel => exact ⟨b + 1, m' + nq, by omega, by go_num, rfl, below_succ HB'.out HP.out⟩
                case measure => simp [intOf]; omega
              · have HP : Hid (¬ (Sq n L M ∧ Rkd n M)) := cnd_no hal hbl fun r => e (HRow.out.1 r)
                have hne : (M a b != 0) = true := by simpa using e
                clear e HRow
                go_wp2_with fail
                go_quiet (fail)
                go_wp2
                go_ret
                exact ⟨says_false HP.out, below_drewN hbel _⟩
          · have HC : Hid (b = n) := show b = n by omega
            go_wp2
            go_roundw
            case rel => exact ⟨a + 1, m', by omega, by go_num, rfl, below_succ HA.out fun y hy => HB'.out y (by have e := HC.out; omega)⟩
            case measure => simp [intOf]; omega
      · have HC : Hid (a = n) := show a = n by omega
        go_wp2
        go_ret
        exact ⟨says_true ⟨HS.out, (cnd_iff HS.out).1 fun x hx => HA.out x (by have e := HC.out; omega)⟩, below_drewN hbel _⟩

end Go.Proofs.YtgflalfiopnmnaaDoor
