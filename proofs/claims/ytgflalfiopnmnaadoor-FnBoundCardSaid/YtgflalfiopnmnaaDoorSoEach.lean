import Derived.Test.YtgflalfiopnmnaaDoorSoStep2
namespace Go.Proofs.YtgflalfiopnmnaaDoor
open Go.RowKit Rk So

/-- How all passes end. -/
def EaEnd (w0 w' : World) (S base K R Pb Qb D Eb n : Nat) (hd : Value) (E : Value) (V : List (Nat × Nat) × Option (List Nat)) (en : Ending) : Prop :=
  match V.2 with
  | some o => en = .returned (.tuple #[]) ∧ SoS w0 w' S base K R Pb Qb D Eb n hd V.1 o
  | none => en = .panicked [{ v := .iface 66 (.agg #[E]), recovered := false }] ∧ ∃ o, SoS w0 w' S base K R Pb Qb D Eb n hd V.1 o

/-- What a pass leaves for the next size. -/
def Nxt (M : Nat → Nat → Int) (n s : Nat) (V : List (Nat × Nat) × Option (List Nat)) (a1 : List (Nat × Nat)) : Option (List Nat) → Prop
  | none => V = (a1, none)
  | some m1 => all M n (2 * s) m1 a1 = V

theorem asks_le {M : Nat → Nat → Int} {xs ys : List Nat} {a r} (h : mg M xs ys = (a, r)) : a.length ≤ xs.length + ys.length := by
  have := mg_asks M xs ys
  rw [h] at this
  rcases this with h | h
  · simp at h; omega
  · simp at h; simp [h]

set_option maxHeartbeats 2000000 in
/-- 'eachMerge' with the sort's own step. -/
theorem each_sort (w0 w : World) (S base K R Pb Qb D Eb : Nat) (ga : Option Addr) (gb go n cp : Nat) (A : Nat → Option Addr) (L C RB RO : Nat → Nat) (M : Nat → Nat → Int) (o : List Nat) (ea : Addr)
    (hga : 0 < n → ga = some ⟨gb, go, none⟩) (HS : Hid (Sq n L M)) (HM : Hid (MatR w0 gb go n A L C RB RO M)) (HE : Hid (w0.cell? ⟨0, 0, none⟩ = some (.iface 74 (.pointer (some ea)))))
    (HT : Hid (SoS w0 w S base K R Pb Qb D Eb n (.slice ga n cp) [] o)) :
    Calls Tryd.prog 30 #[.int .i64 n, .func (.func 44) #[] #[.pointer (some ⟨Pb, 0, none⟩), .pointer (some ⟨Qb, 0, none⟩)]] w fun en w' =>
      EaEnd w0 w' S base K R Pb Qb D Eb n (.slice ga n cp) (.iface 74 (.pointer (some ea))) (all M n 1 o []) en := by
  have h200 : n ≤ 200 := HS.out.1
  obtain ⟨V, HV⟩ : ∃ V, Hid (all M n 1 o [] = V) := ⟨_, rfl⟩
  rw [HV.out]
  go_enter Tryd.func30, Tryd.ntmps30
  go_wp2
  go_loopw [4] (fun t wr => ∃ (s : Nat) (q : List (Nat × Nat)) (o : List Nat), 0 < s ∧ s ≤ 400 ∧ q.length ≤ 1000 * s ∧ t = .int .i64 s ∧ Hid (SoS w0 wr S base K R Pb Qb D Eb n (.slice ga n cp) q o) ∧ Hid (all M n s o q = V)) (fun t _ => 400 - (intOf t).toNat)
  case atStart => exact ⟨1, [], o, by omega, by omega, by simp, rfl, HT, HV⟩
  case round =>
    obtain ⟨s, q, o, hs0, hs1, hq, rfl, HT1, HO⟩ := hrel
    by_cases hlt : s < n
    · obtain ⟨U, HU⟩ : ∃ U, Hid (pass M n s 0 o q = U) := ⟨_, rfl⟩
      obtain ⟨a1, r1⟩ := U
      have HN : Hid (Nxt M n s V a1 r1) := by
        cases r1 with
        | none => exact HO.out.symm.trans (all_bad hlt hs0 HU.out)
        | some m1 => exact (all_yes hlt hs0 HU.out).symm.trans HO.out
      clear HO
      obtain ⟨wo, rfl⟩ : ∃ wo : World, wo = wr := ⟨_, rfl⟩
      go_wp2
      go_loopw [5] (fun t wr => ∃ (f : Nat) (q : List (Nat × Nat)) (o : List Nat), f ≤ 600 ∧ f < n + s ∧ q.length ≤ 1000 * s + f ∧ t = .int .i64 f ∧ Hid (SoS w0 wr S base K R Pb Qb D Eb n (.slice ga n cp) q o) ∧ Hid (pass M n s f o q = (a1, r1))) (fun t _ => 600 - (intOf t).toNat)
      case atStart => exact ⟨0, q, o, by omega, by omega, by omega, rfl, HT1, HU⟩
      case round =>
        clear HT1 HU hq
        obtain ⟨f, q, o, hf0, hf1, hq, rfl, HT1, HI⟩ := hrel
        by_cases hfl : f + s < n
        · obtain ⟨G, HG⟩ : ∃ G, Hid (mg M (seg o f (f + s)) (seg o (f + s) (min (f + 2 * s) n)) = G) := ⟨_, rfl⟩
          obtain ⟨a, r⟩ := G
          have hal : a.length ≤ 2 * s := by
            have h1 := asks_le HG.out
            have hol := HT1.out.len
            rw [seg_length (by omega), seg_length (by omega)] at h1
            omega
          have hst := fun mi ei hmi hei => step_any w0 wr S base K R Pb Qb D Eb ga gb go n cp A L C RB RO M q o ea hga HS HM HE HT1 (by omega) f (f + s) (min (f + 2 * s) n) (by omega) (by omega) (by omega) mi ei hmi hei a r HG
          by_cases hg : n < f + 2 * s
          all_goals
            go_wp2_with fail
            refine (hst _ _ (by omega) (by omega)).mono ?_
            clear hst
            rintro en w1 hend
            cases r with
            | none =>
              obtain ⟨he, HT2⟩ := hend
              subst he
              have e1 : (a1, r1) = (q ++ a, none) := HI.out.symm.trans (pass_bad hfl hs0 HG.out)
              cases e1
              have e2 : V = (q ++ a, none) := HN.out
              subst e2
              exact ⟨rfl, rfl, _, HT2⟩
            | some m1 =>
              obtain ⟨he, HT2'⟩ := hend
              subst he
              have HT2 : Hid (SoS w0 w1 S base K R Pb Qb D Eb n (.slice ga n cp) (q ++ a) (o.take f ++ m1 ++ o.drop (min (f + 2 * s) n))) := HT2'
              have HI2 : Hid (pass M n s (f + 2 * s) (o.take f ++ m1 ++ o.drop (min (f + 2 * s) n)) (q ++ a) = (a1, r1)) := (pass_yes hfl hs0 HG.out).symm.trans HI.out
              clear HT2' HI HG
              go_wp2
              go_roundw
              case rel => exact ⟨f + 2 * s, q ++ a, _, by omega, by omega, by simp; omega, by go_num, HT2, HI2⟩
              case measure => simp [intOf]; omega
        · have e1 : (a1, r1) = (q, some o) := HI.out.symm.trans (pass_no hfl)
          cases e1
          clear HI
          go_wp2
          go_roundw
          case rel => exact ⟨2 * s, a1, _, by omega, by omega, by omega, by go_num, HT1, HN⟩
          case measure => simp [intOf]; omega
    · have HE2 : Hid (V = (q, some o)) := HO.out.symm.trans (all_no hlt)
      clear HO
      go_wp2
      go_end0
      rw [HE2.out]
      exact ⟨rfl, HT1⟩

end Go.Proofs.YtgflalfiopnmnaaDoor
