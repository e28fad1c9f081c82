import Derived.Test.YtgflalfiopnmnabVlOrd
import Derived.Test.YtgflalfiopnmnabVlSp
namespace Go.Proofs.Ytgflalfiopnmnab
open Go.RowKit Vl

/-- 'toVal'. -/
theorem toVal_any (v : V) (w : World) :
    Calls Try.prog 18 #[.agg #[.int .i64 v.k, .int .i64 v.n, .string v.s, .int .i64 v.a]] w fun e w' => e = .returned (.agg #[.int .i64 v.k, .int .i64 v.n, .string v.s, .int .i64 v.a]) ∧ Below w.heap.size w w' := by
  go_enter Try.func18, Try.ntmps18
  go_wp2
  refine bodyPost_ret (v := .agg #[.int .i64 v.k, .int .i64 v.n, .string v.s, .int .i64 v.a]) (by simp [results, Try.results18, go_sem]) rfl ⟨rfl, ?_⟩
  exact (((Below.refl _ _).alloc (Nat.le_refl _) _).alloc (by simp) _).alloc (by simp; omega) _

/-- 'szVal'. -/
theorem szVal_any (v : V) (k : Int) (w : World) (hk0 : 0 ≤ k) (hk1 : k ≤ 1048576) (hs : v.s.size ≤ 9223372036854775807) :
    Calls Try.prog 16 #[.agg #[.int .i64 v.k, .int .i64 v.n, .string v.s, .int .i64 v.a], .int .i64 k] w fun e w' => e = .returned (.int .i64 (if k < v.s.size then -1 else k - v.s.size)) ∧ Below w.heap.size w w' := by
  have hb0 : Hid (Below w.heap.size w (w.alloc (Obj.cells #[.int .i64 v.k, .int .i64 v.n, .string v.s, .int .i64 v.a] 23))) := (Below.refl _ _).alloc (Nat.le_refl _) _
  by_cases h : k - v.s.size < 0
  · rw [if_pos (by omega)]
    go_enter Try.func16, Try.ntmps16
    go_wp2
    go_ret
    exact ⟨rfl, hb0.out⟩
  · rw [if_neg (by omega)]
    go_enter Try.func16, Try.ntmps16
    go_wp2
    go_ret
    exact ⟨rfl, hb0.out⟩

end Go.Proofs.Ytgflalfiopnmnab
