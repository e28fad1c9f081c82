import Derived.Test.YtgflalfiopnmnaaDoorSoSt
namespace Go.Proofs.YtgflalfiopnmnaaDoor
open Go.RowKit Rk So

/-- What the questioner answers: whether, and the error E where the script fails. -/
def ans (m : Int) (E : Value) : Value := if m = 2 then .tuple #[.bool false, E] else .tuple #[.bool (m == 1), .nilIface]

theorem ans_two {m : Int} {E : Value} (h : m = 2) : Ending.returned (.tuple #[.bool false, E]) = .returned (ans m E) := by rw [ans, if_pos h]
theorem ans_one {m : Int} {E : Value} (h : m = 1) : Ending.returned (.tuple #[.bool true, .nilIface]) = .returned (ans m E) := by rw [ans, if_neg (by omega), h]; rfl
theorem ans_zero {m : Int} {E : Value} (h2 : ¬ m = 2) (h1 : ¬ m = 1) : Ending.returned (.tuple #[.bool false, .nilIface]) = .returned (ans m E) := by
  have e : (m == 1) = false := by simpa using h1
  rw [ans, if_neg h2, e]

set_option maxHeartbeats 1000000 in
/-- 'comesAhead'. -/
theorem ahead_any (w0 w : World) (S base : Nat) (ga : Option Addr) (gb go n cp : Nat) (A : Nat → Option Addr) (L C RB RO : Nat → Nat) (M : Nat → Nat → Int) (q : List (Nat × Nat)) (y x : Nat) (ea : Addr)
    (hga : 0 < n → ga = some ⟨gb, go, none⟩) (HS : Hid (Sq n L M)) (HM : Hid (MatR w0 gb go n A L C RB RO M)) (hE : w0.cell? ⟨0, 0, none⟩ = some (.iface 74 (.pointer (some ea))))
    (hI : Inv w0 w S base (.slice ga n cp) q) (hy : y < n) (hx : x < n) (hq : q.length ≤ 1000000) :
    Calls Tryd.prog 26 #[.pointer (some ⟨S, 0, none⟩), .int .i64 y, .int .i64 x] w fun e w' => e = .returned (ans (M y x) (.iface 74 (.pointer (some ea)))) ∧ Inv w0 w' S base (.slice ga n cp) (q ++ [(y, x)]) ∧ Fr S base w w' := by
  obtain rfl := hga (by omega)
  obtain ⟨i0, hi, hz0, hz1, hz2⟩ := info_parts Tryd.infoAsk
  obtain ⟨v, hv, ho⟩ := hI.st
  have hc0 : w.cell? ⟨S, 0, none⟩ = some (.slice (some ⟨gb, go, none⟩) n cp) := by simp [World.cell?, hv]
  have hc1 : w.cell? ⟨S, 1, none⟩ = some v := by simp [World.cell?, hv]
  have h200 : n ≤ 200 := HS.out.1
  have HV : Hid (w.heap[S]? = some (.cells #[.slice (some ⟨gb, go, none⟩) n cp, v] 43 (0, 0))) := hv
  have HI : Hid (Inv w0 w S base (.slice (some ⟨gb, go, none⟩) n cp) q) := hI
  have HE : Hid (w0.cell? ⟨0, 0, none⟩ = some (.iface 74 (.pointer (some ea)))) := hE
  have hsz := hI.sz
  clear hv hI hE
  go_enter Tryd.func26, Tryd.ntmps26
  go_wp2_with (at_builtin; refine wpList_append_lies _ (by rfl) (.tmp 13) (.tmp 17) 26 (by rfl) base 53 i0 (.agg #[.int .i64 0, .int .i64 0]) 2 16 Tryd.underlying26 hi hz0 hz1 hz2 (by rfl) (by omega) v q.length (askCells q) (by rfl) (ho.alloc _) ⟨w.heap.size, 0, none⟩ 1 1 [.int .i64 y, .int .i64 x] (by rfl) (by rfl) (World.news_of_block (heap_alloc_new w _)) ?c2 (by omega) ?c3 ?c4 ?c5 (w.heap.size + 1) (by simp) ?_)
  case c2 => first | exact ⟨rfl, rfl⟩ | (intro u hu; simp at hu; rcases hu with rfl | rfl <;> rfl)
  case c3 => unfold maxLen; omega
  case c4 => omega
  case c5 => first | omega | (simp; omega)
  intro g cap w1 hown1 hgrow hat hlt
  obtain ⟨hI2, hF2, hS1⟩ := HI.out.more HV.out ho _ hown1 hgrow
  have d0 : w1.cell? ⟨S, 0, none⟩ = some (.slice (some ⟨gb, go, none⟩) n cp) := by simp [World.cell?, hS1]
  have d1 : w1.cell? ⟨S, 1, none⟩ = some v := by simp [World.cell?, hS1]
  have d2 : w1.frozen? ⟨S, 1, none⟩ = false := by simp [World.frozen?, hS1]
  have hM2 := HM.out.below hI2.bel
  have t := hM2.topAt HS.out hy
  have u := hM2.valAt HS.out hy hx
  have ge := (hI2.bel.cell (p := ⟨0, 0, none⟩) (by have := World.block_lt_of_cell? _ _ HE.out; show 0 < w0.heap.size; simpa using this)).trans HE.out
  have HI2 : Hid _ := hI2
  have HF2 : Hid _ := hF2
  clear hI2 hF2 hM2 hown1 hgrow hat hlt ho HV HI HE hc0 hc1 hS1
  by_cases e2 : M y x = 2
  · rw [e2] at u
    have H := ans_two (E := .iface 74 (.pointer (some ea))) e2
    have HA : Hid _ := H
    clear e2 H
    go_wp2
    go_region
    all_goals (try go_wp2)
    all_goals go_ret2
    all_goals exact ⟨HA.out, HI2.out.drew, HF2.out.drew⟩
  · by_cases e1 : M y x = 1
    · rw [e1] at u
      have H := ans_one (E := .iface 74 (.pointer (some ea))) e1
      have HA : Hid _ := H
      clear e1 e2 H
      go_wp2
      go_ret2
      exact ⟨HA.out, HI2.out, HF2.out⟩
    · have e0 : (M y x == 1) = false := by simpa using e1
      have e3 : (M y x == 2) = false := by simpa using e2
      have H := ans_zero (E := .iface 74 (.pointer (some ea))) e2 e1
      have HA : Hid _ := H
      clear e1 e2 H
      go_wp2
      go_ret2
      exact ⟨HA.out, HI2.out, HF2.out⟩

end Go.Proofs.YtgflalfiopnmnaaDoor
