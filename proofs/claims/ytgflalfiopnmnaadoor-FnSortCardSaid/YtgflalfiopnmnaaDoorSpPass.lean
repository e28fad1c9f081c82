import Derived.Test.YtgflalfiopnmnaaDoorSpMerge
namespace Go.Proofs.YtgflalfiopnmnaaDoor
open Go.RowKit Rk So

theorem seg_app {N o : List Nat} {f a b : Nat} (hN : N.length = f) (hf : f ≤ a) : seg (N ++ o.drop f) a b = seg o a b := by
  unfold seg
  rw [List.drop_append, List.drop_eq_nil_of_le (by omega), List.nil_append, List.drop_drop, hN, show f + (a - f) = a by omega]

/-- A step of the model's pass, its last piece alone too. -/
theorem spass {M : Nat → Nat → Int} {n s f : Nat} {o N : List Nat} {q a : List (Nat × Nat)} {r : Option (List Nat)} {U : List (Nat × Nat) × Option (List Nat)} (h0 : 0 < s) (hf : f < n) (ho : o.length = n) (hN : N.length = f)
    (hm : mg M (seg o f (min (f + s) n)) (seg o (min (f + s) n) (min (f + 2 * s) n)) = (a, r)) (h : pass M n s f (N ++ o.drop f) q = U) :
    (r = none → U = (q ++ a, none)) ∧ (∀ m, r = some m → pass M n s (f + 2 * s) ((N ++ m) ++ o.drop (f + 2 * s)) (q ++ a) = U) := by
  by_cases hlt : f + s < n
  · rw [Nat.min_eq_left (by omega)] at hm
    have hm' : mg M (seg (N ++ o.drop f) f (f + s)) (seg (N ++ o.drop f) (f + s) (min (f + 2 * s) n)) = (a, r) := by
      rw [seg_app hN (Nat.le_refl _), seg_app hN (by omega)]; exact hm
    constructor
    · rintro rfl
      rw [← h, pass_bad hlt h0 hm']
    · rintro m rfl
      rw [← h, pass_yes hlt h0 hm']
      congr 1
      have e1 : (N ++ o.drop f).take f = N := by rw [List.take_append_of_le_length (by omega), List.take_of_length_le (by omega)]
      have e2 : (N ++ o.drop f).drop (min (f + 2 * s) n) = o.drop (f + 2 * s) := by
        rw [List.drop_append, List.drop_eq_nil_of_le (by omega), List.nil_append, List.drop_drop, hN]
        by_cases hc : f + 2 * s ≤ n
        · rw [Nat.min_eq_left hc]; congr 1; omega
        · rw [Nat.min_eq_right (by omega), List.drop_eq_nil_of_le (by omega), List.drop_eq_nil_of_le (by omega)]
      rw [e1, e2]
  · rw [Nat.min_eq_right (by omega), Nat.min_eq_right (by omega)] at hm
    have e3 : seg o n n = [] := by simp [seg]
    have e4 : seg o f n = o.drop f := by unfold seg; exact List.take_of_length_le (by simp; omega)
    rw [e3, e4, mg_right] at hm
    cases hm
    constructor
    · intro h1; cases h1
    · intro m hm
      cases hm
      rw [pass_no hlt] at h
      rw [pass_no (by omega), ← h, List.drop_eq_nil_of_le (show o.length ≤ f + 2 * s by omega)]
      simp

/-- The piece's address, as slicing gives it. -/
def cutAt (R f cap : Nat) : Option Addr := if cap = f then some ⟨R, 0, none⟩ else some ⟨R, f, none⟩
theorem cutAt_in {R f cap : Nat} (h : f < cap) : cutAt R f cap = some ⟨R, f, none⟩ := by rw [cutAt, if_neg (by omega)]

theorem run_cutc (R f e n cap : Nat) (fi ei : Int) (hfi : fi = (f : Nat)) (hei : ei = (e : Nat)) (hf : f ≤ e) (he : e ≤ cap) (w : World) :
    (Instr.slice 25 (.slice (some ⟨R, 0, none⟩) n cap) (some (.int .i64 fi)) (some (.int .i64 ei)) none).run Tryd.prog w = .ok (.slice (cutAt R f cap) (e - f) (cap - f)) w := by
  subst hfi hei
  have hs : (sizeOf (Tryd.prog.elem 25)).run Tryd.prog w = .ok 1 w := by kernel_rfl
  rw [run_slice_lh (P := Tryd.prog) w 25 _ _ _ (by kernel_rfl) .i64 .i64 _ _ (by omega) (by omega) (by omega), hs]
  simp only [Result.andThen, sliced, Int.toNat_natCast, cutAt]
  by_cases h : cap = f
  · simp [h]
  · rw [if_neg h, if_neg h]
    simp [Addr.add]
    intro h0
    omega

/-- The block of an own row that holds something. -/
theorem owns_block {w : World} {b n : Nat} {v : Value} {z : List Nat} (h : w.ownsRow b 3 1 v n (ints z)) (hn : 0 < n) :
    ∃ g cap cur, v = .slice (some ⟨g, 0, none⟩) n cap ∧ b ≤ g ∧ n ≤ cap ∧ w.heap[g]? = some (.cells cur 3 (0, 0)) ∧ ∀ (k x : Nat), z[k]? = some x → cur[k]? = some (.int .i64 (x : Nat)) := by
  have hl := h.1
  rcases h.2 with ⟨_, e⟩ | ⟨g, cap, cur, hv, hg, hh, hc, _, _, ht⟩
  · omega
  · refine ⟨g, cap, cur, hv, hg, hc, hh, fun k x hk => ?_⟩
    have h1 : (ints z)[k]? = some (.int .i64 (x : Nat)) := by simp [ints, hk]
    rw [← ht, List.getElem?_take] at h1
    split at h1
    · simpa using h1
    · cases h1

end Go.Proofs.YtgflalfiopnmnaaDoor
