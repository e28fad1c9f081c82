import Derived.Test.YtgflalfiopnmnaaDoorXsMark
namespace Go.Proofs.YtgflalfiopnmnaaDoor
open Go.RowKit Rk So

theorem Only.alloc {P : Nat → Prop} (w : World) (o : Obj) : Only P w (w.alloc o) := Only.below ((Below.refl _ _).alloc (Nat.le_refl _) o)

set_option maxHeartbeats 1000000 in
/-- 'markIntSS' of a copy. -/
theorem markSS_any (X n cp : Nat) (L : Nat → Nat) (M : Nat → Nat → Int) (w : World) (hn : n ≤ 1048576) (HL : Hid (∀ r, r < n → L r ≤ 1048576))
    (HT : Hid (w.rowIs X 25 n (fun j => .slice (some ⟨X + 1 + j, 0, none⟩) (L j) (L j)))) (HR : Hid (∀ j, j < n → w.rowIs (X + 1 + j) 3 (L j) (fun c => .int .i64 (M j c)))) :
    Calls Tryd.prog 20 #[.slice (some ⟨X, 0, none⟩) n cp, .int .i64 1] w fun e w' => (∃ k : Int, 0 ≤ k ∧ e = .returned (.int .i64 k)) ∧ Only (fun b => X < b ∧ b < X + 1 + n) w w' := by
  go_enter Tryd.func20, Tryd.ntmps20
  go_wp2
  go_loopw [1, 5] (fun kk i wr => ∃ (j : Nat) (k : Int), j ≤ n ∧ i = .int .i64 j ∧ kk = .int .i64 k ∧ 0 ≤ k ∧ k ≤ 1 + j * 1048576 ∧ Hid (Only (fun b => X < b ∧ b < X + 1 + j) w wr)) (fun _ i _ => n - (intOf i).toNat)
  case atStart => exact ⟨0, 1, Nat.zero_le _, rfl, rfl, by omega, by omega, Only.refl _ _⟩
  case round =>
    obtain ⟨j, k, hj, rfl, rfl, hk0, hk1, HO⟩ := hrel
    by_cases hlt : j < n
    · have ht : wr.cell? ⟨X, j, none⟩ = some (.slice (some ⟨X + 1 + j, 0, none⟩) (L j) (L j)) := (HO.out.rowIs HT.out (by omega)).cell hlt
      have hrow := HO.out.rowIs (HR.out j hlt) (by omega)
      have hLj := HL.out j hlt
      have hmk := markS_any (some ⟨X + 1 + j, 0, none⟩) (L j) (L j) (X + 1 + j) (L j) (fun c => .int .i64 (M j c)) k wr hLj hk0 (by omega) (fun _ => rfl) (Nat.le_refl _) (fun _ => hrow)
      clear hrow
      go_wp2_with fail
      refine hmk.mono ?_
      clear hmk
      rintro e w1 ⟨rfl, hO1, _⟩
      have HO1 : Hid (Only (fun b => X < b ∧ b < X + 1 + (j + 1)) w w1) := (HO.out.mono (fun _ _ h => ⟨h.1, by omega⟩)).trans (hO1.mono (fun _ _ h => by omega))
      clear hO1
      go_wp2
      go_roundw
      case rel => exact ⟨j + 1, k + L j, by omega, by go_num, rfl, by omega, by omega, HO1⟩
      case measure => simp [intOf]; omega
    · obtain rfl : j = n := by omega
      go_wp2
      go_ret
      exact ⟨⟨k, hk0, rfl⟩, HO.out⟩

set_option maxHeartbeats 1000000 in
/-- 'markSorted'. -/
theorem markSorted_any (code : Int) (A A' : Option Addr) (Lo Co Lq Cq B B' co cq : Nat) (f g : Nat → Value) (w : World) (hLo : Lo ≤ 1048576) (hLq : Lq ≤ 1048576) (hA : 0 < Lo → A = some ⟨B, 0, none⟩) (hA' : 0 < Lq → A' = some ⟨B', 0, none⟩) (hco : Lo ≤ co) (hcq : Lq * 2 ≤ cq)
    (HR : Hid (0 < Lo → w.rowIs B 3 co f)) (HQ : Hid (0 < Lq → w.rowIs B' 53 cq g)) (hB : 0 < Lo → 0 < Lq → B ≠ B') :
    Calls Tryd.prog 21 #[.agg #[.int .i64 code, .slice A Lo Co, .slice A' Lq Cq], .int .i64 1] w fun e w' => e = .returned (.int .i64 (1 + Lo + Lq * 2)) ∧ Only (fun b => (b = B ∧ 0 < Lo) ∨ (b = B' ∧ 0 < Lq)) w w' ∧
      (0 < Lo → w'.rowIs B 3 co (marks 1 Lo f)) ∧ (0 < Lq → w'.rowIs B' 53 cq (marks (1 + Lo) (Lq * 2) g)) := by
  have hx : Only (fun _ => False) w (w.alloc (.cells #[.int .i64 code, .slice A Lo Co, .slice A' Lq Cq] 28)) := Only.alloc _ _
  have hm := markS_any A Lo Co B co f 1 (w.alloc (.cells #[.int .i64 code, .slice A Lo Co, .slice A' Lq Cq] 28)) hLo (by omega) (by omega) hA hco (fun h => hx.rowIs (HR.out h) id)
  go_enter Tryd.func21, Tryd.ntmps21
  go_wp2_with fail
  refine hm.mono ?_
  clear hm
  rintro e w1 ⟨rfl, hO1, hr1⟩
  have hq1 : 0 < Lq → w1.rowIs B' 53 cq g := fun h => hO1.rowIs (hx.rowIs (HQ.out h) id) (fun x => hB x.2 h x.1.symm)
  have c2 : w1.cell? ⟨w.heap.size, 2, none⟩ = some (.slice A' Lq Cq) := by
    have hne : ¬ (w.heap.size = B ∧ 0 < Lo) := fun x => by
      have := (HR.out x.2).lt
      omega
    have hb := hO1.block w.heap.size (by simp) hne
    rw [heap_alloc_new] at hb
    simp [World.cell?, hb]
  have hm2 := markA_any A' Lq Cq B' cq g (1 + Lo) w1 hLq (by omega) (by omega) hA' hcq hq1
  have HX : Hid (Only (fun b => (b = B ∧ 0 < Lo) ∨ (b = B' ∧ 0 < Lq)) w w1) := (hx.mono (fun _ _ h => h.elim)).trans (hO1.mono (fun _ _ h => Or.inl h))
  have HR1 : Hid _ := hr1
  clear hO1 hr1 hq1 hx
  go_wp2_with fail
  refine hm2.mono ?_
  clear hm2
  rintro e w2 ⟨rfl, hO2, hr2⟩
  have HX2 : Hid (Only (fun b => (b = B ∧ 0 < Lo) ∨ (b = B' ∧ 0 < Lq)) w w2) := HX.out.trans (hO2.mono (fun _ _ h => Or.inr h))
  have HR2 : Hid (0 < Lo → w2.rowIs B 3 co (marks 1 Lo f)) := fun h => hO2.rowIs (HR1.out h) (fun x => hB h x.2 x.1)
  have HQ2 : Hid _ := hr2
  clear hO2 hr2
  go_wp2
  go_ret
  exact ⟨rfl, HX2.out, HR2.out, HQ2.out⟩

theorem RowR.of_marks {w : World} {A : Option Addr} {L B co : Nat} {f : Nat → Value} {k : Int} (hA : 0 < L → A = some ⟨B, 0, none⟩) (hc : L ≤ co) (h : 0 < L → w.rowIs B 3 co (marks k L f)) : RowR w A L B 0 (fun c => k + c) := by
  intro c hc'
  refine ⟨hA (by omega), ?_⟩
  rw [Nat.zero_add, (h (by omega)).cell (by omega), marks, if_pos hc']
theorem AskR.of_marks {w : World} {A : Option Addr} {L B co : Nat} {f : Nat → Value} {k : Int} (hA : 0 < L → A = some ⟨B, 0, none⟩) (hc : L * 2 ≤ co) (h : 0 < L → w.rowIs B 53 co (marks k (L * 2) f)) : AskR w A L B (fun c => k + c * 2) (fun c => k + c * 2 + 1) := by
  intro c hc'
  refine ⟨hA (by omega), ?_, ?_⟩
  · rw [(h (by omega)).cell (by omega), marks, if_pos (by omega)]; simp
  · rw [(h (by omega)).cell (by omega), marks, if_pos (by omega)]; simp; omega

set_option maxHeartbeats 1000000 in
/-- 'heldSorted' behind 'markSorted'. -/
theorem heldSorted_any (code : Int) (A A' : Option Addr) (Lo Co Lq Cq B B' : Nat) (w : World) (hLo : Lo ≤ 1048576) (hLq : Lq ≤ 1048576) (HR : Hid (RowR w A Lo B 0 (fun c => 1 + c))) (HQ : Hid (AskR w A' Lq B' (fun c => (1 + Lo : Int) + c * 2) (fun c => (1 + Lo : Int) + c * 2 + 1))) :
    Calls Tryd.prog 22 #[.agg #[.int .i64 code, .slice A Lo Co, .slice A' Lq Cq], .int .i64 1] w fun e w' => e = .returned (.int .i64 (1 + Lo + Lq * 2)) ∧ Below w.heap.size w w' := by
  have hx : Below w.heap.size w (w.alloc (.cells #[.int .i64 code, .slice A Lo Co, .slice A' Lq Cq] 28)) := (Below.refl _ _).alloc (Nat.le_refl _) _
  have h1 := heldS_any A Lo Co B 1 (w.alloc (.cells #[.int .i64 code, .slice A Lo Co, .slice A' Lq Cq] 28)) hLo (by omega) (by omega) (HR.out.below hx)
  have h2 := heldA_any A' Lq Cq B' (1 + Lo) (w.alloc (.cells #[.int .i64 code, .slice A Lo Co, .slice A' Lq Cq] 28)) hLq (by omega) (by omega) (HQ.out.below hx)
  have HX : Hid _ := hx
  clear hx
  go_enter Tryd.func22, Tryd.ntmps22
  go_wp2_with fail
  refine h1.mono ?_
  clear h1
  rintro e w1 ⟨rfl, rfl⟩
  have i1 : ¬ ((1 : Int) + Lo < 0) := by omega
  go_wp2_with fail
  refine h2.mono ?_
  clear h2
  rintro e w2 ⟨rfl, rfl⟩
  have i2 : ¬ ((1 : Int) + Lo + Lq * 2 < 0) := by omega
  go_wp2
  go_ret
  exact ⟨rfl, HX.out⟩

set_option maxHeartbeats 1000000 in
/-- 'eqSorted' of two with the same rows. -/
theorem eqSorted_same (code : Int) (A A' A1 A1' : Option Addr) (Lo Co Co1 Lq Cq Cq1 B B' B1 B1' : Nat) (f g h : Nat → Int) (w : World) (hLo : Lo ≤ 1048576) (hLq : Lq ≤ 1048576)
    (HR : Hid (RowR w A Lo B 0 f)) (HQ : Hid (AskR w A' Lq B' g h)) (HR1 : Hid (RowR w A1 Lo B1 0 f)) (HQ1 : Hid (AskR w A1' Lq B1' g h)) :
    Calls Tryd.prog 18 #[.agg #[.int .i64 code, .slice A Lo Co, .slice A' Lq Cq], .agg #[.int .i64 code, .slice A1 Lo Co1, .slice A1' Lq Cq1]] w fun e w' => e = .returned (.bool true) ∧ Below w.heap.size w w' := by
  have hx : Below w.heap.size w ((w.alloc (.cells #[.int .i64 code, .slice A Lo Co, .slice A' Lq Cq] 28)).alloc (.cells #[.int .i64 code, .slice A1 Lo Co1, .slice A1' Lq Cq1] 28)) := ((Below.refl _ _).alloc (Nat.le_refl _) _).alloc (by simp) _
  have h1 := eqS_same A A1 Lo Co Co1 B 0 B1 0 f _ hLo (HR.out.below hx) (HR1.out.below hx)
  have h2 := fun m => eqAskS_same A' A1' Lq Cq Cq1 B' B1' g h _ hLq (HQ.out.below (below_drewN hx m)) (HQ1.out.below (below_drewN hx m))
  have HX : Hid _ := hx
  clear hx
  go_enter Tryd.func18, Tryd.ntmps18
  go_wp2_with fail
  refine h1.mono ?_
  clear h1
  rintro e w1 ⟨rfl, m, rfl⟩
  go_wp2_with fail
  refine (h2 m).mono ?_
  clear h2
  rintro e w2 ⟨rfl, hb⟩
  have HB : Hid _ := (below_drewN HX.out m).trans (hb.mono (below_drewN HX.out m).size)
  clear hb
  go_wp2
  go_ret
  exact ⟨rfl, HB.out⟩

end Go.Proofs.YtgflalfiopnmnaaDoor
