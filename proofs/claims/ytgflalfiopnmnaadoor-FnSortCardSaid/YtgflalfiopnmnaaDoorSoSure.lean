import Derived.Test.YtgflalfiopnmnaaDoorSoAsk
namespace Go.Proofs.YtgflalfiopnmnaaDoor
open Go.RowKit Rk So

set_option maxHeartbeats 1000000 in
/-- 'surely', where the script does not fail. -/
theorem sure_yes (w0 w : World) (S base K : Nat) (ga : Option Addr) (gb go n cp : Nat) (A : Nat → Option Addr) (L C RB RO : Nat → Nat) (M : Nat → Nat → Int) (q : List (Nat × Nat)) (y x : Nat) (ea : Addr)
    (hga : 0 < n → ga = some ⟨gb, go, none⟩) (HS : Hid (Sq n L M)) (HM : Hid (MatR w0 gb go n A L C RB RO M)) (HE : Hid (w0.cell? ⟨0, 0, none⟩ = some (.iface 74 (.pointer (some ea)))))
    (HI : Hid (Inv w0 w S base (.slice ga n cp) q)) (hy : y < n) (hx : x < n) (hq : q.length ≤ 1000000) (hK : w.cell? ⟨K, 0, none⟩ = some (.func (.func 26) #[.pointer (some ⟨S, 0, none⟩)] #[])) (h2 : ¬ M y x = 2) :
    Calls Tryd.prog 43 #[.int .i64 y, .int .i64 x, .pointer (some ⟨K, 0, none⟩)] w fun e w' => e = .returned (.bool (M y x == 1)) ∧ Inv w0 w' S base (.slice ga n cp) (q ++ [(y, x)]) ∧ Fr S base w w' := by
  obtain ⟨b, hb⟩ : ∃ b, (M y x == 1) = b := ⟨_, rfl⟩
  have HA : Hid (ans (M y x) (.iface 74 (.pointer (some ea))) = .tuple #[.bool b, .nilIface]) := by
    show ans _ _ = _
    rw [ans, if_neg h2, hb]
  rw [hb]
  clear h2 hb
  go_enter Tryd.func43, Tryd.ntmps43
  go_wp2_with fail
  refine (ahead_any w0 w S base ga gb go n cp A L C RB RO M q y x ea hga HS HM HE.out HI.out hy hx hq).mono ?_
  rintro e w1 ⟨he, hI1, hF1⟩
  rw [HA.out] at he
  subst he
  go_wp2
  go_ret
  exact ⟨rfl, hI1, hF1⟩

set_option maxHeartbeats 1000000 in
/-- 'surely', where the script fails: it panics with a type of its own. -/
theorem sure_no (w0 w : World) (S base K : Nat) (ga : Option Addr) (gb go n cp : Nat) (A : Nat → Option Addr) (L C RB RO : Nat → Nat) (M : Nat → Nat → Int) (q : List (Nat × Nat)) (y x : Nat) (ea : Addr)
    (hga : 0 < n → ga = some ⟨gb, go, none⟩) (HS : Hid (Sq n L M)) (HM : Hid (MatR w0 gb go n A L C RB RO M)) (HE : Hid (w0.cell? ⟨0, 0, none⟩ = some (.iface 74 (.pointer (some ea)))))
    (HI : Hid (Inv w0 w S base (.slice ga n cp) q)) (hy : y < n) (hx : x < n) (hq : q.length ≤ 1000000) (hK : w.cell? ⟨K, 0, none⟩ = some (.func (.func 26) #[.pointer (some ⟨S, 0, none⟩)] #[])) (h2 : M y x = 2) :
    Calls Tryd.prog 43 #[.int .i64 y, .int .i64 x, .pointer (some ⟨K, 0, none⟩)] w fun e w' => e = .panicked [{ v := .iface 66 (.agg #[.iface 74 (.pointer (some ea))]), recovered := false }] ∧ Inv w0 w' S base (.slice ga n cp) (q ++ [(y, x)]) ∧ Fr S base w w' := by
  have HA : Hid (ans (M y x) (.iface 74 (.pointer (some ea))) = .tuple #[.bool false, .iface 74 (.pointer (some ea))]) := by
    show ans _ _ = _
    rw [ans, if_pos h2]
  clear h2
  go_enter Tryd.func43, Tryd.ntmps43
  go_wp2_with fail
  refine (ahead_any w0 w S base ga gb go n cp A L C RB RO M q y x ea hga HS HM HE.out HI.out hy hx hq).mono ?_
  rintro e w1 ⟨he, hI1, hF1⟩
  rw [HA.out] at he
  subst he
  go_wp2
  exact ⟨rfl, rfl, hI1, hF1⟩

end Go.Proofs.YtgflalfiopnmnaaDoor
