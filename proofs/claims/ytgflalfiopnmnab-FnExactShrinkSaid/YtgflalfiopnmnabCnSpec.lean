import Derived.Test.YtgflalfiopnmnabCnCan
namespace Go.Proofs.Ytgflalfiopnmnab
open Go.RowKit Vl

/-- What 'Canon' answers: the canonical graph, or the empty one. -/
def CanonIs (w w' : World) (e : Ending) (n : Nat) (u : V) (L : Nat → Nat) (K X : Nat → Nat → V) : Prop :=
  (OkG n u L K X ∧ ∃ (tv : Value) (PV : Nat → Value) (base : Nat), w.heap.size ≤ base ∧ e = .returned (.agg #[.int .i64 (renum (order n u L X) u).k, .int .i64 (renum (order n u L X) u).n, .string (renum (order n u L X) u).s, .int .i64 (renum (order n u L X) u).a, tv]) ∧ OTab w' base tv (order n u L X).length PV (cL (order n u L X) L) (cK (order n u L X) K) (cX (order n u L X) X)) ∨
  (¬ OkG n u L K X ∧ e = .returned (.agg #[.int .i64 0, .int .i64 0, .string ⟨#[]⟩, .int .i64 0, .slice none 0 0]))

set_option maxHeartbeats 1000000 in
set_option maxRecDepth 100000 in
/-- 'spec.Canon'. -/
theorem specCanon_any (u : V) (ta : Option Addr) (n cp TB TO : Nat) (A : Nat → Option Addr) (L C RB RO : Nat → Nat) (K X : Nat → Nat → V) (w : World) (hn : n ≤ 1048576) (HS : Hid (Small 1048576 n L K X)) (HT : Hid (TabsAt w ta n TB TO A L C RB RO K X)) :
    Calls Try.prog 20 #[.agg #[.int .i64 u.k, .int .i64 u.n, .string u.s, .int .i64 u.a, .slice ta n cp]] w fun e w' => CanonIs w w' e n u L K X ∧ Below w.heap.size w w' := by
  have A2 : Hid _ := alloc2 w (.cells #[.int .i64 u.k, .int .i64 u.n, .string u.s, .int .i64 u.a, .slice ta n cp] 32) (.cells #[.int .i64 0, .int .i64 0, .string ⟨#[]⟩, .int .i64 0, .slice none 0 0] 32)
  obtain ⟨w0, hw0⟩ : ∃ w0, w0 = (w.alloc (.cells #[.int .i64 u.k, .int .i64 u.n, .string u.s, .int .i64 u.a, .slice ta n cp] 32)).alloc (.cells #[.int .i64 0, .int .i64 0, .string ⟨#[]⟩, .int .i64 0, .slice none 0 0] 32) := ⟨_, rfl⟩
  have H0 : Hid (CanW w w0 u ta n cp) := by rw [hw0]; exact ⟨A2.out.1, A2.out.2.1, A2.out.2.2.2⟩
  clear A2
  have hsp := specOk_any u ta n cp TB TO A L C RB RO K X w0 hn HS (HT.out.below H0.out.bel)
  go_enter Try.func20, Try.ntmps20
  go_wp2_with fail
  rw [← hw0]
  refine hsp.mono ?_
  clear hsp hw0
  rintro e w1 ⟨⟨bs, rfl, hbs⟩, hb1⟩
  have H1 : Hid (CanW w w1 u ta n cp) := H0.out.below hb1
  clear hb1 H0
  cases bs
  · have HN : Hid (¬ OkG n u L K X) := show ¬ OkG n u L K X from fun h => by have := hbs.2 h; cases this
    clear hbs
    obtain ⟨r0, r1, r2, r3, r4, r5⟩ := cells5 H1.out.res
    simp only [zeroV] at r0 r1 r2 r3
    go_wp2
    have F := put5hi (put5lo H1.out.res (.int .i64 0) (.int .i64 0) (.string ⟨#[]⟩) (.int .i64 0)) (.slice none 0 0)
    obtain ⟨q0, q1, q2, q3, q4, _⟩ := cells5 F
    refine bodyPost_ret (v := .agg #[.int .i64 0, .int .i64 0, .string ⟨#[]⟩, .int .i64 0, .slice none 0 0]) (by simp [results, Try.results20, go_sem, q0, q1, q2, q3, q4]) rfl ⟨Or.inr ⟨HN.out, rfl⟩, ?_⟩
    exact (H1.out.bel.trans (set4_below.mono (by omega))).setCell (by show w.heap.size ≤ w.heap.size + 1; omega) _
  · have HG : Hid (OkG n u L K X) := hbs.1 rfl
    clear hbs
    obtain ⟨g0, g1, g2, g3, g4, _⟩ := cells5 H1.out.graph
    obtain ⟨S, HSo⟩ : ∃ S, Hid (order n u L X = S) := ⟨_, rfl⟩
    have hcan := l2canon_any u ta n cp TB TO A L C RB RO K X w1 HG (HT.out.below H1.out.bel) S HSo
    obtain ⟨ru, HRU⟩ : ∃ ru, Hid (renum S u = ru) := ⟨_, rfl⟩
    rw [HRU.out] at hcan
    go_wp2_with fail
    refine hcan.mono ?_
    clear hcan g0 g1 g2 g3 g4
    rintro e w2 ⟨⟨tv, PV, base, hbase, rfl, hT⟩, hb2⟩
    have H2 : Hid (CanW w w2 u ta n cp) := H1.out.below hb2
    have HO : Hid (OTab w2 base tv S.length PV (cL S L) (cK S K) (cX S X)) := hT
    have hs1 : w.heap.size + 1 < w1.heap.size := blk_lt H1.out.res
    clear hb2 H1 hT
    obtain ⟨ta', tc', rfl, _⟩ := owns_form HO.out.own
    obtain ⟨r0, r1, r2, r3, r4, r5⟩ := cells5 H2.out.res
    simp only [zeroV] at r0 r1 r2 r3
    go_wp2
    have F := put5hi (put5lo H2.out.res (.int .i64 ru.k) (.int .i64 ru.n) (.string ru.s) (.int .i64 ru.a)) (.slice ta' S.length tc')
    obtain ⟨wf, hwf⟩ : ∃ wf, wf = ((((w2.setCell ⟨w.heap.size + 1, 0, none⟩ (.int .i64 ru.k)).setCell ⟨w.heap.size + 1, 1, none⟩ (.int .i64 ru.n)).setCell ⟨w.heap.size + 1, 2, none⟩ (.string ru.s)).setCell ⟨w.heap.size + 1, 3, none⟩ (.int .i64 ru.a)).setCell ⟨w.heap.size + 1, 4, none⟩ (.slice ta' S.length tc') := ⟨_, rfl⟩
    have ho : Only (fun k => k = w.heap.size + 1) w2 wf := by rw [hwf]; exact set4_only.set (p := ⟨w.heap.size + 1, 4, none⟩) rfl _
    rw [← hwf] at F ⊢
    clear hwf
    obtain ⟨q0, q1, q2, q3, q4, _⟩ := cells5 F
    refine bodyPost_ret (v := .agg #[.int .i64 ru.k, .int .i64 ru.n, .string ru.s, .int .i64 ru.a, .slice ta' S.length tc']) (by simp [results, Try.results20, go_sem, q0, q1, q2, q3, q4]) rfl ⟨Or.inl ⟨HG.out, ?_⟩, H2.out.bel.trans (ho.toBelow (fun k hk => by omega) (by have := H2.out.bel.size; omega))⟩
    rw [HSo.out, HRU.out]
    exact ⟨_, PV, base, by omega, rfl, HO.out.only ho (fun k hk e => by omega)⟩

end Go.Proofs.Ytgflalfiopnmnab
