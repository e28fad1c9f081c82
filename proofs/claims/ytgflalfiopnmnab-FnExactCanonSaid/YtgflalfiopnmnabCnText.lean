import Derived.Test.YtgflalfiopnmnabCnSpec
namespace Go.Proofs.Ytgflalfiopnmnab
open Go.RowKit Vl

/-- The digits of k ahead of out. -/
def digs (k : Nat) (out : ByteArray) : ByteArray := if k = 0 then out else digs (k / 10) (strOfNums [48 + (k : Int) % 10] ++ out)
termination_by k
decreasing_by omega
theorem digs_zero (out : ByteArray) : digs 0 out = out := by rw [digs]; simp
theorem digs_pos {k : Nat} (h : ¬ k = 0) (out : ByteArray) : digs k out = digs (k / 10) (strOfNums [48 + (k : Int) % 10] ++ out) := by rw [digs]; simp [h]
/-- The text of a mark. -/
def markT (k : Nat) : ByteArray := ⟨#[109]⟩ ++ digs k ⟨#[]⟩

set_option maxHeartbeats 1000000 in
set_option maxRecDepth 100000 in
/-- 'markText'. -/
theorem markText_any (k : Nat) (w : World) (hk0 : 0 < k) (hk1 : k ≤ 1125899906842624) :
    Calls Try.prog 74 #[.int .i64 k] w fun e w' => e = .returned (.string (markT k)) ∧ Below w.heap.size w w' := by
  have hk : ¬ ((k : Int) ≤ 0) := by omega
  go_enter Try.func74, Try.ntmps74
  go_wp2
  go_loopw [0, 3] (fun kk oo wr => ∃ (j : Nat) (out : ByteArray), j ≤ k ∧ kk = .int .i64 j ∧ oo = .string out ∧ digs j out = digs k ⟨#[]⟩ ∧ out.size + j ≤ k ∧ Hid (Below w.heap.size w wr)) (fun kk _ _ => (intOf kk).toNat)
  case atStart => exact ⟨k, ⟨#[]⟩, Nat.le_refl _, rfl, rfl, rfl, by simp [ByteArray.size], Below.refl _ _⟩
  case round =>
    obtain ⟨j, out, hj, rfl, rfl, hd, hos, HW⟩ := hrel
    by_cases h0 : j = 0
    · subst h0
      rw [digs_zero] at hd
      have HD : Hid (out = digs k ⟨#[]⟩) := hd
      clear hd
      obtain rfl := HD.out
      go_wp2
      refine bodyPost_ret (v := .string (markT k)) (by simp [results, Try.results74, go_sem, markT]) rfl ⟨rfl, HW.out⟩
    · have hpos : (0 : Int) < (j : Int) := by omega
      have HD : Hid (digs (j / 10) (strOfNums [48 + (j : Int) % 10] ++ out) = digs k ⟨#[]⟩) := by rw [← hd, digs_pos h0]; exact rfl
      clear hd
      have hcv := run_convert_bytes_arg (P := Try.prog) (wr.alloc (.cells #[.int .u8 (48 + (j : Int) % 10)] 5)) 167 5 Try.underlying167 Try.underlying5 wr.heap.size 0 1 1 [48 + (j : Int) % 10] rfl (fun i hi => by
        obtain rfl : i = 0 := by omega
        rw [Nat.zero_add]
        exact (one_at (heap_alloc_new wr (.cells #[.int .u8 (48 + (j : Int) % 10)] 5))).1) 9 Try.underlying9
      obtain ⟨dg, hdg⟩ : ∃ dg, strOfNums [48 + (j : Int) % 10] = dg := ⟨_, rfl⟩
      have hds : dg.size = 1 := by rw [← hdg]; rfl
      rw [hdg] at hcv HD
      clear hdg
      go_wp2
      go_roundw
      case rel => exact ⟨j / 10, dg ++ out, by omega, by go_num, rfl, HD.out, by rw [ByteArray.size_append, hds]; omega, HW.out.alloc HW.out.size _⟩
      case measure => simp [intOf]; omega

end Go.Proofs.Ytgflalfiopnmnab
