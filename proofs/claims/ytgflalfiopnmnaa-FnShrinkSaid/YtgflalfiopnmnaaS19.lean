import Derived.Test.YtgflalfiopnmnaaS13
import Derived.Test.YtgflalfiopnmnaaS12
import Derived.Test.YtgflalfiopnmnaaS16
import Derived.Test.YtgflalfiopnmnaaS17
import Derived.Test.YtgflalfiopnmnaaS18
import Derived.Deep.RegionHeld3
import Derived.Test.YtgflalfiopnmnaaRows
import Derived.ProofKit
import Derived.OpenShut
import Derived.ShutString
import Derived.ChangeOld
namespace Go.Proofs.Ytgflalfiopnmnaa
open Go.RowKit Vl

set_option maxHeartbeats 2000000 in
set_option maxRecDepth 100000 in
theorem specClasses_any (u : V) (ta : Option Addr) (n cp TB TO : Nat) (A : Nat → Option Addr) (L C RB RO : Nat → Nat) (K X : Nat → Nat → V) (w : World) (hn : n ≤ 1048576)
    (HS : Hid (Small 1048576 n L K X)) (HT : Hid (TabsAt w ta n TB TO A L C RB RO K X)) :
    Calls Try.prog 16 #[.agg #[.int .i64 u.k, .int .i64 u.n, .string u.s, .int .i64 u.a, .slice ta n cp]] w fun e w' => ClsRes w w' e n u L K X ∧ Below w.heap.size w w' := by
  obtain ⟨w0, hw0⟩ : ∃ w0, w0 = w.alloc (.cells #[.int .i64 u.k, .int .i64 u.n, .string u.s, .int .i64 u.a, .slice ta n cp] 27) := ⟨_, rfl⟩
  have H0 : Hid (w0.heap[w.heap.size]? = some (.cells #[.int .i64 u.k, .int .i64 u.n, .string u.s, .int .i64 u.a, .slice ta n cp] 27 (0, 0))) := by rw [hw0]; exact heap_alloc_new _ _
  have HB0 : Hid (Below w.heap.size w w0) := by rw [hw0]; exact (Below.refl _ _).alloc (Nat.le_refl _) _
  have HT0 : Hid (TabsAt w0 ta n TB TO A L C RB RO K X) := HT.out.below HB0.out
  have hok := specOk_any u ta n cp TB TO A L C RB RO K X w0 hn HS HT0
  obtain ⟨g0, g1, g2, g3, g4, _⟩ := cells5 H0.out
  go_enter Try.func16, Try.ntmps16
  go_wp2_with fail
  rw [← hw0]
  refine hok.mono ?_
  clear hok hw0 g0 g1 g2 g3 g4
  rintro e w1 ⟨⟨b, rfl, hb⟩, hb1⟩
  have HB1 : Hid (Below w0.heap.size w0 w1) := hb1
  have HBw : Hid (Below w.heap.size w w1) := grw HB0.out hb1
  have H1 : Hid (w1.heap[w.heap.size]? = some (.cells #[.int .i64 u.k, .int .i64 u.n, .string u.s, .int .i64 u.a, .slice ta n cp] 27 (0, 0))) := blkB H0.out hb1
  have HT1 : Hid (TabsAt w1 ta n TB TO A L C RB RO K X) := HT0.out.below hb1
  clear hb1
  cases b
  · have HN : Hid (¬ OkG n u L K X) := show ¬ _ from fun h => by have := hb.2 h; cases this
    clear hb
    go_wp2
    go_ret
    exact ⟨Or.inr ⟨HN.out, rfl⟩, HBw.out⟩
  · have HO : Hid (OkG n u L K X) := hb.1 rfl
    clear hb
    have hcl := l3classes_any ta n cp TB TO A L C RB RO K X w1 (by have := HO.out.len; omega) (show ∀ r, _ from fun r hr => (HO.out.all r hr).len) (show ∀ r, _ from fun r hr c hc => by have := ((HS.out r hr).2 c hc).1; omega) (good_of HO.out) HT1
    obtain ⟨g0, g1, g2, g3, g4, _⟩ := cells5 H1.out
    go_wp2_with fail
    refine hcl.mono ?_
    clear hcl g0 g1 g2 g3 g4
    rintro e w2 ⟨⟨g, f, ls, rfl, hg, hr, hs, hi⟩, hb2⟩
    go_wp2
    go_ret
    exact ⟨Or.inl ⟨HO.out, g, f, ls, rfl, Nat.le_trans HBw.out.size hg, hr, hs, hi⟩, grw HBw.out hb2⟩

set_option maxHeartbeats 2000000 in
set_option maxRecDepth 100000 in
theorem implClasses_any (u : V) (ta : Option Addr) (n cp TB TO : Nat) (A : Nat → Option Addr) (L C RB RO : Nat → Nat) (K X : Nat → Nat → V) (w : World) (hn : n ≤ 1048576)
    (HS : Hid (Small 1048576 n L K X)) (HT : Hid (TabsAt w ta n TB TO A L C RB RO K X)) :
    Calls Try.prog 14 #[.agg #[.int .i64 u.k, .int .i64 u.n, .string u.s, .int .i64 u.a, .slice ta n cp]] w fun e w' => ClsRes w w' e n u L K X ∧ Below w.heap.size w w' := by
  have A2 := alloc2 w (.cells #[.int .i64 u.k, .int .i64 u.n, .string u.s, .int .i64 u.a, .slice ta n cp] 27) (.cells #[.int .i64 u.k, .int .i64 u.n, .string u.s, .int .i64 u.a, .slice ta n cp] 27)
  obtain ⟨w0, hw0⟩ : ∃ w0, w0 = (w.alloc (.cells #[.int .i64 u.k, .int .i64 u.n, .string u.s, .int .i64 u.a, .slice ta n cp] 27)).alloc (.cells #[.int .i64 u.k, .int .i64 u.n, .string u.s, .int .i64 u.a, .slice ta n cp] 27) := ⟨_, rfl⟩
  rw [← hw0] at A2
  have HB0 : Hid (Below w.heap.size w w0) := A2.2.2.2
  obtain ⟨k0, k1, k2, k3, k4, _⟩ := cells5 A2.2.1
  obtain ⟨G, HGd⟩ : ∃ G : GrS, Hid (G = ⟨fun _ => u, fun _ => n, fun _ => L, fun _ => K, fun _ => X⟩) := ⟨_, rfl⟩
  have HGs : Hid (GsAt w0 1 (w.heap.size + 1) G (fun _ => ta) (fun _ => cp) (fun _ => TB) (fun _ => TO) (fun _ => A) (fun _ => C) (fun _ => RB) (fun _ => RO)) := by
    rw [HGd.out]
    refine ⟨fun q hq => ?_, fun q hq => ?_, fun q hq => ?_, fun q hq => ?_, fun q hq => ?_, fun _ _ => ⟨hn, HS.out⟩, fun _ _ => HT.out.below HB0.out⟩ <;> (obtain rfl : q = 0 := by omega) <;> assumption
  have hcf := classify_any 1 (by omega) (by omega) (w.heap.size + 1) G _ _ _ _ _ _ _ _ w0 HGs
  have hoff : G.off 1 = n := by rw [HGd.out]; simp [GrS.off]
  rw [hoff] at hcf
  clear k0 k1 k2 k3 k4 A2
  go_enter Try.func14, Try.ntmps14
  go_wp2_with fail
  rw [← hw0]
  refine hcf.mono ?_
  clear hcf hw0
  rintro e w1 ⟨hcase, hb1⟩
  have HB1 : Hid (Below w.heap.size w w1) := grw HB0.out hb1
  rcases hcase with ⟨T, M, Lc, Kc, Xc, ls, f, rv, tv, cb, rfl, hd⟩ | ⟨⟨q, hq, hno⟩, rfl⟩
  · obtain ⟨ra, rc, rfl, _⟩ := owns_form hd.roots
    obtain ⟨va, vc, rfl, _⟩ := owns_form hd.tabs
    rw [hoff]
    have HR : Hid (ClsRes w w1 (.returned (.slice (some ⟨cb, 0, none⟩) n n)) n u L K X) := by
      have h1 := hd.cls
      have h2 := hd.srt
      have h3 := hd.is
      have hok := hd.cmb.ok 0 (by omega)
      have htab := hd.cmb.tab 0 (by omega)
      rw [hoff] at h1 h2 h3
      rw [HGd.out] at hok htab
      simp only [GrS.off, Nat.zero_add, sh_zero] at hok htab
      have hL : ∀ j, j < n → Lc j = L j := fun j hj => (htab j hj).1
      have hK : ∀ j, j < n → Kc j = K j := fun j hj => (htab j hj).2.1
      have hX : ∀ j, j < n → Xc j = X j := fun j hj => funext (htab j hj).2.2
      refine Or.inl ⟨hok, cb, f, ls, rfl, Nat.le_trans HB0.out.size hd.lo, h1, fun r hr => ?_, h3.agree hL (fun j hj => ?_) (fun j hj => ?_)⟩
      · rw [← hK r hr, ← hL r hr]; exact h2 r hr
      · unfold sK; rw [hK j hj]
      · unfold sK; rw [hX j hj]
    clear hd
    obtain ⟨w2, hw2⟩ : ∃ w2, w2 = w1.alloc (.cells #[.slice ra 1 rc, .slice va n vc, .slice (some ⟨cb, 0, none⟩) n n] 60) := ⟨_, rfl⟩
    have hb2 : Below w1.heap.size w1 w2 := by rw [hw2]; exact (Below.refl _ _).alloc (Nat.le_refl _) _
    go_wp2
    rw [← hw2]
    go_ret
    refine ⟨?_, grw HB1.out hb2⟩
    rcases HR.out with ⟨h1, g, f, ls, h2, h3, h4, h5, h6⟩ | ⟨h1, h2⟩
    · exact Or.inl ⟨h1, g, f, ls, h2, h3, h4.of_block (hb2.block _ h4.lt), h5, h6⟩
    · exact Or.inr ⟨h1, h2⟩
  · have HN : Hid (¬ OkG n u L K X) := by rw [HGd.out] at hno; exact hno
    have hb2 : ∀ o, Below w1.heap.size w1 (w1.alloc o) := fun o => (Below.refl _ _).alloc (Nat.le_refl _) _
    go_wp2
    go_ret
    exact ⟨Or.inr ⟨HN.out, rfl⟩, grw HB1.out (hb2 _)⟩

end Go.Proofs.Ytgflalfiopnmnaa

/-
  The law on shrunk graphs.
-/
namespace Go.Proofs.Ytgflalfiopnmnaa
open Go.RowKit Vl

theorem SameD.symm {n : Nat} {L L' : Nat → Nat} {K K' X X' : Nat → Nat → V} (h : SameD n L L' K K' X X') : SameD n L' L K' K X' X :=
  ⟨fun r hr => (h.len r hr).symm, fun r hr c hc => by
    have := h.all r hr c (by rw [← h.len r hr]; exact hc)
    exact ⟨this.1.symm, this.2.symm⟩⟩

theorem fine_renum {S : List Nat} {f : Nat → Nat} {v : V} (h : fineV v) : fineV (renum S (fstV f v)) := by
  have h1 : fineV (fstV f v) := by
    unfold fstV
    split
    · exact h
    · exact h
  unfold renum
  split
  · exact h1
  · exact h1

/-- What 'Shrink' gives, told whole. -/
theorem shrunk_of {w w' : World} {e : Ending} {n : Nat} {u : V} {L : Nat → Nat} {K X : Nat → Nat → V} (hok : OkG n u L K X) (hf : FineG n u L K X) (h : ShrIs w w' e n u L K X) :
    ∃ (s : Gr) (tv : Value) (PV : Nat → Value) (base : Nat), w.heap.size ≤ base ∧ e = .returned (.agg #[.int .i64 s.u.k, .int .i64 s.u.n, .string s.u.s, .int .i64 s.u.a, tv]) ∧ OTab w' base tv s.n PV s.L s.K s.X ∧ SameG ⟨n, u, L, K, X⟩ s ∧ Shk s ∧ FineG s.n s.u s.L s.K s.X := by
  rcases h with ⟨_, f, ls, ⟨hs, hi⟩, hc⟩ | ⟨hno, _⟩
  · have hok2 := okG_shr hok hs hi.low
    rcases hc with ⟨_, tv, PV, base, hb, rfl, hO⟩ | ⟨hno', _⟩
    · obtain ⟨h1, h2⟩ := shr_all (g := ⟨n, u, L, K, X⟩) hok hs hi
      refine ⟨shr ⟨n, u, L, K, X⟩ f ls, tv, PV, base, hb, rfl, hO, h1, h2, ⟨fine_renum hf.root, fun r hr => ?_⟩⟩
      have hr' : (order n (fstV f u) L (fX X ls f)).getD r 0 < n := (order_all hok2).1.lt _ (ord_mem hr)
      refine ⟨(hf.all _ hr').1, fun c hc => ?_⟩
      have hcl := (hs _ hr').lt hc
      exact ⟨((hf.all _ hr').2 _ hcl).1, fine_renum ((hf.all _ hr').2 _ hcl).2⟩
    · exact absurd hok2 hno'
  · exact absurd hok hno

/-- What 'Shrink' gives of a graph that is the same as one that is shrunk: that one. -/
theorem shrunk_like {w w' : World} {e : Ending} {n : Nat} {u : V} {L : Nat → Nat} {K X : Nat → Nat → V} {s : Gr} (hok : OkG n u L K X) (hf : FineG n u L K X) (hs : Shk s) (hg : SameG ⟨n, u, L, K, X⟩ s) (h : ShrIs w w' e n u L K X) :
    ∃ (ta : Option Addr) (tc : Nat) (PV : Nat → Value) (base : Nat) (L2 : Nat → Nat) (K2 X2 : Nat → Nat → V), e = .returned (.agg #[.int .i64 s.u.k, .int .i64 s.u.n, .string s.u.s, .int .i64 s.u.a, .slice ta s.n tc]) ∧ OTab w' base (.slice ta s.n tc) s.n PV L2 K2 X2 ∧ SameD s.n s.L L2 s.K K2 s.X X2 := by
  obtain ⟨t, tv, PV, base, _, rfl, hO, h1, h2, _⟩ := shrunk_of hok hf h
  obtain ⟨e1, e2, e3⟩ := shk_one hs h2 (hg.symm.trans h1)
  obtain ⟨ta, tc, rfl, _⟩ := owns_form hO.own
  rw [← e1] at hO
  exact ⟨ta, tc, PV, base, t.L, t.K, t.X, by rw [e1, e2], hO, ⟨fun r hr => (e3 r hr).1.symm, fun r hr c hc => ⟨((e3 r hr).2 c hc).1.symm, ((e3 r hr).2 c hc).2.symm⟩⟩⟩

theorem same_true {e : Ending} {n : Nat} {u : V} {L : Nat → Nat} {K X : Nat → Nat → V} {s : Gr} (hok : OkG n u L K X) (hs : s.Ok) (hg : SameG ⟨n, u, L, K, X⟩ s) (h : SameRes e n s.n u s.u L s.L K X s.K s.X) : e = .returned (.bool true) := by
  rcases h with ⟨_, f, hf, rfl⟩ | ⟨hno, _⟩
  · rw [alike_of_same (g := ⟨n, u, L, K, X⟩) (h := s) hok hs hf hg]
  · exact absurd ⟨hok, hs⟩ hno

theorem keepS {w4 w w' : World} {gb sb : Nat} {x0 x1 x2 x3 x4 y0 y1 y2 y3 y4 : Value} (h : (w.cell? ⟨gb, 0, none⟩ = some x0 ∧ w.cell? ⟨gb, 1, none⟩ = some x1 ∧ w.cell? ⟨gb, 2, none⟩ = some x2 ∧ w.cell? ⟨gb, 3, none⟩ = some x3 ∧ w.cell? ⟨gb, 4, none⟩ = some x4 ∧ w.cell? ⟨sb, 0, none⟩ = some y0 ∧ w.cell? ⟨sb, 1, none⟩ = some y1 ∧ w.cell? ⟨sb, 2, none⟩ = some y2 ∧ w.cell? ⟨sb, 3, none⟩ = some y3 ∧ w.cell? ⟨sb, 4, none⟩ = some y4) ∧ Hid (Below w4.heap.size w4 w)) (hb : Below w.heap.size w w') :
    (w'.cell? ⟨gb, 0, none⟩ = some x0 ∧ w'.cell? ⟨gb, 1, none⟩ = some x1 ∧ w'.cell? ⟨gb, 2, none⟩ = some x2 ∧ w'.cell? ⟨gb, 3, none⟩ = some x3 ∧ w'.cell? ⟨gb, 4, none⟩ = some x4 ∧ w'.cell? ⟨sb, 0, none⟩ = some y0 ∧ w'.cell? ⟨sb, 1, none⟩ = some y1 ∧ w'.cell? ⟨sb, 2, none⟩ = some y2 ∧ w'.cell? ⟨sb, 3, none⟩ = some y3 ∧ w'.cell? ⟨sb, 4, none⟩ = some y4) ∧ Hid (Below w4.heap.size w4 w') := by
  obtain ⟨⟨h0, h1, h2, h3, h4, i0, i1, i2, i3, i4⟩, h5⟩ := h
  have k : ∀ b i x, w.cell? ⟨b, i, none⟩ = some x → w'.cell? ⟨b, i, none⟩ = some x := fun b i x hx => (hb.cell (World.block_lt_of_cell? _ _ hx)).trans hx
  exact ⟨⟨k _ _ _ h0, k _ _ _ h1, k _ _ _ h2, k _ _ _ h3, k _ _ _ h4, k _ _ _ i0, k _ _ _ i1, k _ _ _ i2, k _ _ _ i3, k _ _ _ i4⟩, grw h5.out hb⟩

theorem ByteR.belowH {w w' : World} {ca : Option Addr} {cl cb co : Nat} (h : ByteR w ca cl cb co) (hb : Below w.heap.size w w') : ByteR w' ca cl cb co := fun i hi => by
  obtain ⟨e, x, hx, hc⟩ := h i hi
  exact ⟨e, x, hx, (hb.cell (World.block_lt_of_cell? _ _ hc)).trans hc⟩

set_option maxHeartbeats 1000000 in
/-- 'wInts' of two rows with the same numbers. -/
theorem wInts_row (g g' n c c' : Nat) (f : Nat → Nat) (f' : Nat → Nat) (hff : ∀ i, i < n → f' i = f i) (w : World) (hn : n ≤ 1048576) (hr : w.rowIs g 3 n (fun i => .int .i64 (f i : Nat))) (hr' : w.rowIs g' 3 n (fun i => .int .i64 (f' i : Nat))) :
    Calls Try.prog 15 #[.slice (some ⟨g, 0, none⟩) n c, .slice (some ⟨g', 0, none⟩) n c'] w fun e w' => e = .returned (.bool true) ∧ Below w.heap.size w w' := by
  have HR : Hid (w.rowIs g 3 n (fun i => .int .i64 (f i : Nat))) := hr
  have HR' : Hid (w.rowIs g' 3 n (fun i => .int .i64 (f' i : Nat))) := hr'
  clear hr hr'
  go_enter Try.func15, Try.ntmps15
  go_wp2
  go_loopw [13] (fun i wr => ∃ k m : Nat, k ≤ n ∧ i = .int .i64 k ∧ wr = w.drewN m) (fun i _ => n - (intOf i).toNat)
  case atStart => exact ⟨0, 0, Nat.zero_le _, rfl, rfl⟩
  case round =>
    obtain ⟨k, m, hk, rfl, rfl⟩ := hrel
    by_cases hlt : k < n
    · have v := HR.out.cell hlt
      have v' := HR'.out.cell hlt
      rw [hff k hlt] at v'
      have ik : (k : Int) < (n : Int) := by omega
      go_wp2_with fail
      go_quiet (fail)
      go_wp2
      go_roundw
      case rel => exact ⟨k + 1, m + nq, by omega, by go_num, rfl⟩
      case measure => simp [intOf]; omega
    · go_wp2
      go_ret
      exact ⟨rfl, below_drewN (Below.refl _ _) _⟩

theorem SameG.refl {g : Gr} (hg : g.Ok) : SameG g g := by
  have up : ∀ {x : V}, isV g.n x = true → relV (fun i j => i < g.n ∧ i = j) x x := fun {x} hx => ⟨rfl, fun h4 => by
    obtain ⟨a0, a1⟩ := isV_tab hx h4
    exact ⟨by omega, rfl⟩, fun _ => rfl⟩
  refine ⟨fun i j => i < g.n ∧ i = j, ?_, up hg.root⟩
  rintro i _ ⟨hi, rfl⟩
  exact ⟨hi, hi, fun k => up (isV_at (hg.all i hi) k)⟩

theorem cls_of {w w' : World} {e : Ending} {n : Nat} {u : V} {L : Nat → Nat} {K X : Nat → Nat → V} (hok : OkG n u L K X) (h : ClsRes w w' e n u L K X) : ∃ (g : Nat) (f : Nat → Nat), e = .returned (.slice (some ⟨g, 0, none⟩) n n) ∧ w'.rowIs g 3 n (fun i => .int .i64 (f i : Nat)) ∧ ClsAre n L K X f := by
  rcases h with ⟨_, g, f, ls, rfl, _, hr, hs, hc⟩ | ⟨hno, _⟩
  · exact ⟨g, f, rfl, hr, ls, hs, hc⟩
  · exact absurd hok hno

theorem keepG {w4 w w' : World} {gb : Nat} {x0 x1 x2 x3 x4 : Value} (h : (w.cell? ⟨gb, 0, none⟩ = some x0 ∧ w.cell? ⟨gb, 1, none⟩ = some x1 ∧ w.cell? ⟨gb, 2, none⟩ = some x2 ∧ w.cell? ⟨gb, 3, none⟩ = some x3 ∧ w.cell? ⟨gb, 4, none⟩ = some x4) ∧ Hid (Below w4.heap.size w4 w)) (hb : Below w.heap.size w w') :
    (w'.cell? ⟨gb, 0, none⟩ = some x0 ∧ w'.cell? ⟨gb, 1, none⟩ = some x1 ∧ w'.cell? ⟨gb, 2, none⟩ = some x2 ∧ w'.cell? ⟨gb, 3, none⟩ = some x3 ∧ w'.cell? ⟨gb, 4, none⟩ = some x4) ∧ Hid (Below w4.heap.size w4 w') := by
  obtain ⟨⟨h0, h1, h2, h3, h4⟩, h5⟩ := h
  have k : ∀ b i x, w.cell? ⟨b, i, none⟩ = some x → w'.cell? ⟨b, i, none⟩ = some x := fun b i x hx => (hb.cell (World.block_lt_of_cell? _ _ hx)).trans hx
  exact ⟨⟨k _ _ _ h0, k _ _ _ h1, k _ _ _ h2, k _ _ _ h3, k _ _ _ h4⟩, grw h5.out hb⟩

set_option maxHeartbeats 8000000 in
set_option maxRecDepth 100000 in
/-- 'laws.FnShrink'. -/
theorem shrinkLaw2 (ca : Option Addr) (cl cc cb co : Nat) (da : Option Addr) (dl dc db do_ : Nat) (w : World) (hB : ByteR w ca cl cb co) (hcl : cl ≤ 9223372036854775807) (hB' : ByteR w da dl db do_) (hdl : dl ≤ 9223372036854775807) :
    Calls Try.prog 3 #[.slice ca cl cc, .slice da dl dc] w fun e w' => e = .returned (.bool true) ∧ Below w.heap.size w w' := by
  by_cases hl : 1048576 < cl
  · clear hB hB'
    go_enter Try.func3, Try.ntmps3
    go_wp2
    go_ret
    exact ⟨rfl, Below.refl _ _⟩
  by_cases hl' : 1048576 < dl
  · clear hB hB'
    go_enter Try.func3, Try.ntmps3
    go_wp2
    go_ret
    exact ⟨rfl, Below.refl _ _⟩
  have hdr := drawn_any ca cl cc cb co w hB (by omega)
  have HB' : Hid (ByteR w da dl db do_) := hB'
  clear hB hB'
  go_enter Try.func3, Try.ntmps3
  go_wp2_with fail
  refine hdr.mono ?_
  clear hdr
  rintro e w1 ⟨⟨n, u, tv, PV, L, K, X, base, hb, rfl, hok, hfi, hO1⟩, hb1⟩
  obtain ⟨ta, tc, rfl, _⟩ := owns_form hO1.own
  have hn := hok.len
  have HOK : Hid (OkG n u L K X) := hok
  have HFI : Hid (FineG n u L K X) := hfi
  obtain ⟨w2, hw2⟩ : ∃ w2, w2 = w1.alloc (.cells #[.int .i64 u.k, .int .i64 u.n, .string u.s, .int .i64 u.a, .slice ta n tc] 27) := ⟨_, rfl⟩
  have hb2 : Below w1.heap.size w1 w2 := by rw [hw2]; exact (Below.refl _ _).alloc (Nat.le_refl _) _
  obtain ⟨gb, hgb⟩ : ∃ gb, w1.heap.size = gb := ⟨_, rfl⟩
  have HG2 : Hid (OutB w2 gb u (.slice ta n tc)) := by rw [hw2, ← hgb]; exact heap_alloc_new _ _
  have HO2 : Hid (OTab w2 base (.slice ta n tc) n PV L K X) := hO1.below hb2
  have HW2 : Hid (Below w.heap.size w w2) := grw hb1 hb2
  have hsh := implShrink_any u ta n tc _ _ _ L _ _ _ K X w2 (by omega) HFI.out.small HO2.out.tabs.2
  clear hok hfi hO1 hb1 hb2 hb
  go_upto_region 4 with fail
  rw [← hw2]
  try rw [hgb]
  clear hw2
  obtain ⟨a0, a1, a2, a3, a4, _⟩ := cells5 HG2.out
  go_wp2_with fail
  refine hsh.mono ?_
  clear hsh
  rintro e w3 ⟨hs3, hb3⟩
  obtain ⟨s, stv, SPV, sbase, _, rfl, hO3, hsame, hshk, hfs⟩ := shrunk_of HOK.out HFI.out hs3
  obtain ⟨sa, sc, rfl, _⟩ := owns_form hO3.own
  have HSG : Hid (SameG ⟨n, u, L, K, X⟩ s) := hsame
  have HSK : Hid (Shk s) := hshk
  have HFS : Hid (FineG s.n s.u s.L s.K s.X) := hfs
  have hsn : s.n ≤ 200 := hshk.ok.len
  obtain ⟨w4, hw4⟩ : ∃ w4, w4 = w3.alloc (.cells #[.int .i64 s.u.k, .int .i64 s.u.n, .string s.u.s, .int .i64 s.u.a, .slice sa s.n sc] 27) := ⟨_, rfl⟩
  have hb4 : Below w3.heap.size w3 w4 := by rw [hw4]; exact (Below.refl _ _).alloc (Nat.le_refl _) _
  obtain ⟨sb, hsb⟩ : ∃ sb, w3.heap.size = sb := ⟨_, rfl⟩
  have HS4 : Hid (OutB w4 sb s.u (.slice sa s.n sc)) := by rw [hw4, ← hsb]; exact heap_alloc_new _ _
  have HG4 : Hid (OutB w4 gb u (.slice ta n tc)) := blkB (blkB HG2.out hb3) hb4
  have HO4 : Hid (OTab w4 base (.slice ta n tc) n PV L K X) := (HO2.out.below hb3).below hb4
  have HOs : Hid (OTab w4 sbase (.slice sa s.n sc) s.n SPV s.L s.K s.X) := hO3.below hb4
  have HW4 : Hid (Below w.heap.size w w4) := grw (grw HW2.out hb3) hb4
  clear hs3 hb3 hb4 hO3 hsame hshk hfs HG2 HO2 HW2 a0 a1 a2 a3 a4
  go_upto_region 5 with fail
  rw [← hw4]
  try rw [hsb]
  clear hw4
  obtain ⟨a0, a1, a2, a3, a4, _⟩ := cells5 HG4.out
  obtain ⟨b0, b1, b2, b3, b4, _⟩ := cells5 HS4.out
  have SD0 : Hid (SameD s.n s.L s.L s.K s.K s.X s.X) := ⟨fun _ _ => rfl, fun _ _ _ _ => ⟨rfl, rfl⟩⟩
  have HLs : Hid (∀ r, r < s.n → s.L r ≤ 1048576) := show ∀ r, _ from fun r hr => by have := (HFS.out.all r hr).1; omega
  have B4 : Below w4.heap.size w4 w4.drew := (Below.refl _ _).drew
  have HB4 : Hid (ByteR w4 da dl db do_) := HB'.out.belowH HW4.out
  have HSR : Hid (SameG s s) := SameG.refl HSK.out.ok
  refine wp_region_held_drew (S := fun w' => OutB w' gb u (.slice ta n tc) ∧ OutB w' sb s.u (.slice sa s.n sc)) (by kernel_rfl) ⟨HG4.out, HS4.out⟩ (fun hHeld => ?_)
  refine wpAnyH_take (i := 0) (v := .agg #[.int .i64 s.u.k, .int .i64 s.u.n, .string s.u.s, .int .i64 s.u.a, .slice sa s.n sc]) rfl (by kernel_rfl) (by kernel_rfl) (by kernel_rfl) (fun _ _ _ h => h) (Or.inl ⟨by rfl, fun w hSw => ?_⟩) hHeld ?_
  · obtain ⟨k0, k1, k2, k3, k4, _⟩ := cells5 hSw.2
    go_simp
  simp only [Act.put, List.setIfInBounds_toArray, List.set_cons_zero, List.set_cons_succ, List.getElem_toArray, List.getElem_cons_zero]
  refine wpAnyH_take (i := 1) (v := .agg #[.int .i64 u.k, .int .i64 u.n, .string u.s, .int .i64 u.a, .slice ta n tc]) rfl (by kernel_rfl) (by kernel_rfl) (by kernel_rfl) (fun _ _ _ h => h) (Or.inl ⟨by rfl, fun w hSw => ?_⟩) hHeld ?_
  · obtain ⟨k0, k1, k2, k3, k4, _⟩ := cells5 hSw.1
    go_simp
  simp only [Act.put, List.setIfInBounds_toArray, List.set_cons_zero, List.set_cons_succ, List.getElem_toArray, List.getElem_cons_zero, List.getElem_cons_succ]
  refine wpAnyH_ready (rs := [2]) (by kernel_rfl) (by simp) ?_
  refine AllReadyH.cons rfl (fun K' hK' => ?_) AllReadyH.nil
  have hcl := specShrink_any u ta n tc _ _ _ L _ _ _ K X w4.drew (by omega) HFI.out.small (HO4.out.below B4).tabs.2
  go_simp
  refine hcl.mono ?_
  clear hcl
  rintro e w5 ⟨hs5, hb5⟩
  obtain ⟨ta5, tc5, PV5, bs5, L5, K5, X5, rfl, hO5, hD5⟩ := shrunk_like HOK.out HFI.out HSK.out HSG.out hs5
  have B5 := grw B4 hb5
  have HO5 : Hid (OTab w5 bs5 (.slice ta5 s.n tc5) s.n PV5 L5 K5 X5) := hO5
  have HD5 : Hid (SameD s.n s.L L5 s.K K5 s.X X5) := hD5
  clear hs5 hO5 hD5
  refine hK'.out _ _ ⟨blkB hHeld.1 hb5, blkB hHeld.2 hb5⟩ (fun hHeld => ?_)
  clear hK'
  try simp only [Act.put, List.setIfInBounds_toArray, List.set_cons_zero, List.set_cons_succ, List.getElem_toArray, List.getElem_cons_zero, List.getElem_cons_succ]
  refine wpAnyH_ready (rs := [3]) (by kernel_rfl) (by simp) ?_
  refine AllReadyH.cons rfl (fun K' hK' => ?_) AllReadyH.nil
  have hcl := wGraph_any s.u sa ta5 s.n sc tc5 _ _ _ _ _ _ s.L L5 _ _ _ _ _ _ s.K K5 s.X X5 w5 (by omega) HLs HD5 (HOs.out.below B5).tabs.2 HO5.out.tabs.2
  go_simp
  refine hcl.mono ?_
  clear hcl
  rintro e w6 ⟨rfl, hb6⟩
  have B6 := grw B5 hb6
  refine hK'.out _ _ ⟨blkB hHeld.1 hb6, blkB hHeld.2 hb6⟩ (fun hHeld => ?_)
  clear hK'
  try simp only [Act.put, List.setIfInBounds_toArray, List.set_cons_zero, List.set_cons_succ, List.getElem_toArray, List.getElem_cons_zero, List.getElem_cons_succ]
  refine wpAnyH_take (i := 4) (v := .bool false) rfl (by kernel_rfl) (by kernel_rfl) (by kernel_rfl) (fun _ _ _ h => h) (Or.inl ⟨by rfl, fun w hSw => ?_⟩) hHeld ?_
  · go_simp
  simp only [Act.put, List.setIfInBounds_toArray, List.set_cons_zero, List.set_cons_succ, List.getElem_toArray, List.getElem_cons_zero, List.getElem_cons_succ]
  refine wpAnyH_take (i := 5) (v := .bool false) rfl (by kernel_rfl) (by kernel_rfl) (by kernel_rfl) (fun _ _ _ h => h) (Or.inl ⟨by rfl, fun w hSw => ?_⟩) hHeld ?_
  · first | rfl | go_simp
  simp only [Act.put, List.setIfInBounds_toArray, List.set_cons_zero, List.set_cons_succ, List.getElem_toArray, List.getElem_cons_zero, List.getElem_cons_succ]
  refine wpAnyH_take (i := 6) (v := .agg #[.int .i64 u.k, .int .i64 u.n, .string u.s, .int .i64 u.a, .slice ta n tc]) rfl (by kernel_rfl) (by kernel_rfl) (by kernel_rfl) (fun _ _ _ h => h) (Or.inl ⟨by rfl, fun w hSw => ?_⟩) hHeld ?_
  · obtain ⟨k0, k1, k2, k3, k4, _⟩ := cells5 hSw.1
    go_simp
  simp only [Act.put, List.setIfInBounds_toArray, List.set_cons_zero, List.set_cons_succ, List.getElem_toArray, List.getElem_cons_zero, List.getElem_cons_succ]
  refine wpAnyH_take (i := 7) (v := .agg #[.int .i64 s.u.k, .int .i64 s.u.n, .string s.u.s, .int .i64 s.u.a, .slice sa s.n sc]) rfl (by kernel_rfl) (by kernel_rfl) (by kernel_rfl) (fun _ _ _ h => h) (Or.inl ⟨by rfl, fun w hSw => ?_⟩) hHeld ?_
  · obtain ⟨k0, k1, k2, k3, k4, _⟩ := cells5 hSw.2
    go_simp
  simp only [Act.put, List.setIfInBounds_toArray, List.set_cons_zero, List.set_cons_succ, List.getElem_toArray, List.getElem_cons_zero, List.getElem_cons_succ]
  refine wpAnyH_ready (rs := [8]) (by kernel_rfl) (by simp) ?_
  refine AllReadyH.cons rfl (fun K' hK' => ?_) AllReadyH.nil
  have hcl := implSame_any u s.u ta sa n tc _ _ s.n sc _ _ _ _ L _ _ _ s.L _ _ _ K X s.K s.X w6 (by omega) (by omega) HFI.out.small HFS.out.small (HO4.out.below B6).tabs.2 (HOs.out.below B6).tabs.2
  go_simp
  refine hcl.mono ?_
  clear hcl
  rintro e w7 ⟨hs7, hb7⟩
  obtain rfl := same_true HOK.out HSK.out.ok HSG.out hs7
  have B7 := grw B6 hb7
  clear hs7
  refine hK'.out _ _ ⟨blkB hHeld.1 hb7, blkB hHeld.2 hb7⟩ (fun hHeld => ?_)
  clear hK'
  try simp only [Act.put, List.setIfInBounds_toArray, List.set_cons_zero, List.set_cons_succ, List.getElem_toArray, List.getElem_cons_zero, List.getElem_cons_succ]
  refine wpAnyH_take (i := 9) (v := .bool false) rfl (by kernel_rfl) (by kernel_rfl) (by kernel_rfl) (fun _ _ _ h => h) (Or.inl ⟨by rfl, fun w hSw => ?_⟩) hHeld ?_
  · go_simp
  simp only [Act.put, List.setIfInBounds_toArray, List.set_cons_zero, List.set_cons_succ, List.getElem_toArray, List.getElem_cons_zero, List.getElem_cons_succ]
  refine wpAnyH_take (i := 10) (v := .bool false) rfl (by kernel_rfl) (by kernel_rfl) (by kernel_rfl) (fun _ _ _ h => h) (Or.inl ⟨by rfl, fun w hSw => ?_⟩) hHeld ?_
  · go_simp
  simp only [Act.put, List.setIfInBounds_toArray, List.set_cons_zero, List.set_cons_succ, List.getElem_toArray, List.getElem_cons_zero, List.getElem_cons_succ]
  refine wpAnyH_take (i := 11) (v := .bool false) rfl (by kernel_rfl) (by kernel_rfl) (by kernel_rfl) (fun _ _ _ h => h) (Or.inl ⟨by rfl, fun w hSw => ?_⟩) hHeld ?_
  · first | rfl | go_simp
  simp only [Act.put, List.setIfInBounds_toArray, List.set_cons_zero, List.set_cons_succ, List.getElem_toArray, List.getElem_cons_zero, List.getElem_cons_succ]
  refine wpAnyH_take (i := 12) (v := .agg #[.int .i64 s.u.k, .int .i64 s.u.n, .string s.u.s, .int .i64 s.u.a, .slice sa s.n sc]) rfl (by kernel_rfl) (by kernel_rfl) (by kernel_rfl) (fun _ _ _ h => h) (Or.inl ⟨by rfl, fun w hSw => ?_⟩) hHeld ?_
  · obtain ⟨k0, k1, k2, k3, k4, _⟩ := cells5 hSw.2
    go_simp
  simp only [Act.put, List.setIfInBounds_toArray, List.set_cons_zero, List.set_cons_succ, List.getElem_toArray, List.getElem_cons_zero, List.getElem_cons_succ]
  refine wpAnyH_take (i := 14) (v := .agg #[.int .i64 s.u.k, .int .i64 s.u.n, .string s.u.s, .int .i64 s.u.a, .slice sa s.n sc]) rfl (by kernel_rfl) (by kernel_rfl) (by kernel_rfl) (fun _ _ _ h => h) (Or.inl ⟨by rfl, fun w hSw => ?_⟩) hHeld ?_
  · obtain ⟨k0, k1, k2, k3, k4, _⟩ := cells5 hSw.2
    go_simp
  simp only [Act.put, List.setIfInBounds_toArray, List.set_cons_zero, List.set_cons_succ, List.getElem_toArray, List.getElem_cons_zero, List.getElem_cons_succ]
  refine wpAnyH_ready (rs := [13]) (by kernel_rfl) (by simp) ?_
  refine AllReadyH.cons rfl (fun K' hK' => ?_) AllReadyH.nil
  have hcl := implShrink_any s.u sa s.n sc _ _ _ s.L _ _ _ s.K s.X w7 (by omega) HFS.out.small (HOs.out.below B7).tabs.2
  go_simp
  refine hcl.mono ?_
  clear hcl
  rintro e w8 ⟨hs8, hb8⟩
  obtain ⟨ta8, tc8, PV8, bs8, L8, K8, X8, rfl, hO8, hD8⟩ := shrunk_like HSK.out.ok HFS.out HSK.out HSR.out hs8
  have B8 := grw B7 hb8
  have HO8 : Hid (OTab w8 bs8 (.slice ta8 s.n tc8) s.n PV8 L8 K8 X8) := hO8
  have HD8 : Hid (SameD s.n s.L L8 s.K K8 s.X X8) := hD8
  clear hs8 hO8 hD8
  refine hK'.out _ _ ⟨blkB hHeld.1 hb8, blkB hHeld.2 hb8⟩ (fun hHeld => ?_)
  clear hK'
  try simp only [Act.put, List.setIfInBounds_toArray, List.set_cons_zero, List.set_cons_succ, List.getElem_toArray, List.getElem_cons_zero, List.getElem_cons_succ]
  refine wpAnyH_ready (rs := [15]) (by kernel_rfl) (by simp) ?_
  refine AllReadyH.cons rfl (fun K' hK' => ?_) AllReadyH.nil
  have hcl := wGraph_any s.u ta8 sa s.n tc8 sc _ _ _ _ _ _ L8 s.L _ _ _ _ _ _ K8 s.K X8 s.X w8 (by omega) (show ∀ r, _ from fun r hr => by rw [HD8.out.len r hr]; exact HLs.out r hr) HD8.out.symm HO8.out.tabs.2 (HOs.out.below B8).tabs.2
  go_simp
  refine hcl.mono ?_
  clear hcl
  rintro e w9 ⟨rfl, hb9⟩
  have B9 := grw B8 hb9
  refine hK'.out _ _ ⟨blkB hHeld.1 hb9, blkB hHeld.2 hb9⟩ (fun hHeld => ?_)
  clear hK'
  try simp only [Act.put, List.setIfInBounds_toArray, List.set_cons_zero, List.set_cons_succ, List.getElem_toArray, List.getElem_cons_zero, List.getElem_cons_succ]
  refine wpAnyH_take (i := 16) (v := .bool false) rfl (by kernel_rfl) (by kernel_rfl) (by kernel_rfl) (fun _ _ _ h => h) (Or.inl ⟨by rfl, fun w hSw => ?_⟩) hHeld ?_
  · go_simp
  simp only [Act.put, List.setIfInBounds_toArray, List.set_cons_zero, List.set_cons_succ, List.getElem_toArray, List.getElem_cons_zero, List.getElem_cons_succ]
  refine wpAnyH_take (i := 17) (v := .bool false) rfl (by kernel_rfl) (by kernel_rfl) (by kernel_rfl) (fun _ _ _ h => h) (Or.inl ⟨by rfl, fun w hSw => ?_⟩) hHeld ?_
  · go_simp
  simp only [Act.put, List.setIfInBounds_toArray, List.set_cons_zero, List.set_cons_succ, List.getElem_toArray, List.getElem_cons_zero, List.getElem_cons_succ]
  refine wpAnyH_take (i := 18) (v := .bool false) rfl (by kernel_rfl) (by kernel_rfl) (by kernel_rfl) (fun _ _ _ h => h) (Or.inl ⟨by rfl, fun w hSw => ?_⟩) hHeld ?_
  · first | rfl | go_simp
  simp only [Act.put, List.setIfInBounds_toArray, List.set_cons_zero, List.set_cons_succ, List.getElem_toArray, List.getElem_cons_zero, List.getElem_cons_succ]
  refine wpAnyH_take (i := 19) (v := .agg #[.int .i64 u.k, .int .i64 u.n, .string u.s, .int .i64 u.a, .slice ta n tc]) rfl (by kernel_rfl) (by kernel_rfl) (by kernel_rfl) (fun _ _ _ h => h) (Or.inl ⟨by rfl, fun w hSw => ?_⟩) hHeld ?_
  · obtain ⟨k0, k1, k2, k3, k4, _⟩ := cells5 hSw.1
    go_simp
  simp only [Act.put, List.setIfInBounds_toArray, List.set_cons_zero, List.set_cons_succ, List.getElem_toArray, List.getElem_cons_zero, List.getElem_cons_succ]
  refine wpAnyH_take (i := 20) (v := .slice da dl dc) rfl (by kernel_rfl) (by kernel_rfl) (by kernel_rfl) (fun _ _ _ h => h) (Or.inl ⟨by rfl, fun w hSw => ?_⟩) hHeld ?_
  · go_simp
  simp only [Act.put, List.setIfInBounds_toArray, List.set_cons_zero, List.set_cons_succ, List.getElem_toArray, List.getElem_cons_zero, List.getElem_cons_succ]
  refine wpAnyH_take (i := 23) (v := .agg #[.int .i64 s.u.k, .int .i64 s.u.n, .string s.u.s, .int .i64 s.u.a, .slice sa s.n sc]) rfl (by kernel_rfl) (by kernel_rfl) (by kernel_rfl) (fun _ _ _ h => h) (Or.inl ⟨by rfl, fun w hSw => ?_⟩) hHeld ?_
  · obtain ⟨k0, k1, k2, k3, k4, _⟩ := cells5 hSw.2
    go_simp
  simp only [Act.put, List.setIfInBounds_toArray, List.set_cons_zero, List.set_cons_succ, List.getElem_toArray, List.getElem_cons_zero, List.getElem_cons_succ]
  refine wpAnyH_ready (rs := [21]) (by kernel_rfl) (by simp) ?_
  refine AllReadyH.cons rfl (fun K' hK' => ?_) AllReadyH.nil
  have hcl := turnedW_any u ta n tc _ _ _ L _ _ _ K X da dl dc db do_ w9 HOK HFI (HO4.out.below B9).tabs.2 (HB4.out.belowH B9) (by omega)
  go_simp
  refine hcl.mono ?_
  clear hcl
  rintro e w10 ⟨⟨tw, u', tv', PVt, Lt, Kt, Xt, bs', _, rfl, hTG, hFT, hO10⟩, hb10⟩
  have hnt := hTG.few
  obtain ⟨N, HN⟩ : ∃ N, Hid (n * tw = N) := ⟨_, rfl⟩
  rw [HN.out] at hFT hO10 hTG
  have hnt : N ≤ 200 := by rw [← HN.out]; exact hnt
  obtain ⟨ta10, tc10, rfl, _⟩ := owns_form hO10.own
  have B10 := grw B9 hb10
  have HTG : Hid (TurnedG ⟨n, u, L, K, X⟩ ⟨N, u', Lt, Kt, Xt⟩ tw) := hTG
  have HFT : Hid (FineG N u' Lt Kt Xt) := hFT
  have HO10 : Hid (OTab w10 bs' (.slice ta10 N tc10) N PVt Lt Kt Xt) := hO10
  clear hTG hFT hO10
  refine hK'.out _ _ ⟨blkB hHeld.1 hb10, blkB hHeld.2 hb10⟩ (fun hHeld => ?_)
  clear hK'
  try simp only [Act.put, List.setIfInBounds_toArray, List.set_cons_zero, List.set_cons_succ, List.getElem_toArray, List.getElem_cons_zero, List.getElem_cons_succ]
  refine wpAnyH_ready (rs := [22]) (by kernel_rfl) (by simp) ?_
  refine AllReadyH.cons rfl (fun K' hK' => ?_) AllReadyH.nil
  have hcl := implShrink_any u' ta10 N tc10 _ _ _ Lt _ _ _ Kt Xt w10 (by omega) HFT.out.small HO10.out.tabs.2
  go_simp
  refine hcl.mono ?_
  clear hcl
  rintro e w11 ⟨hs11, hb11⟩
  obtain ⟨ta11, tc11, PV11, bs11, L11, K11, X11, rfl, hO11, hD11⟩ := shrunk_like (turned_ok (g := ⟨n, u, L, K, X⟩) HOK.out HTG.out) HFT.out HSK.out ((turned_same (g := ⟨n, u, L, K, X⟩) HOK.out HTG.out).symm.trans HSG.out) hs11
  have B11 := grw B10 hb11
  have HO11 : Hid (OTab w11 bs11 (.slice ta11 s.n tc11) s.n PV11 L11 K11 X11) := hO11
  have HD11 : Hid (SameD s.n s.L L11 s.K K11 s.X X11) := hD11
  clear hs11 hO11 hD11
  refine hK'.out _ _ ⟨blkB hHeld.1 hb11, blkB hHeld.2 hb11⟩ (fun hHeld => ?_)
  clear hK'
  try simp only [Act.put, List.setIfInBounds_toArray, List.set_cons_zero, List.set_cons_succ, List.getElem_toArray, List.getElem_cons_zero, List.getElem_cons_succ]
  refine wpAnyH_ready (rs := [24]) (by kernel_rfl) (by simp) ?_
  refine AllReadyH.cons rfl (fun K' hK' => ?_) AllReadyH.nil
  have hcl := wGraph_any s.u ta11 sa s.n tc11 sc _ _ _ _ _ _ L11 s.L _ _ _ _ _ _ K11 s.K X11 s.X w11 (by omega) (show ∀ r, _ from fun r hr => by rw [HD11.out.len r hr]; exact HLs.out r hr) HD11.out.symm HO11.out.tabs.2 (HOs.out.below B11).tabs.2
  go_simp
  refine hcl.mono ?_
  clear hcl
  rintro e w12 ⟨rfl, hb12⟩
  have B12 := grw B11 hb12
  refine hK'.out _ _ ⟨blkB hHeld.1 hb12, blkB hHeld.2 hb12⟩ (fun hHeld => ?_)
  clear hK'
  try simp only [Act.put, List.setIfInBounds_toArray, List.set_cons_zero, List.set_cons_succ, List.getElem_toArray, List.getElem_cons_zero, List.getElem_cons_succ]
  refine wpAnyH_take (i := 25) (v := .bool false) rfl (by kernel_rfl) (by kernel_rfl) (by kernel_rfl) (fun _ _ _ h => h) (Or.inl ⟨by rfl, fun w hSw => ?_⟩) hHeld ?_
  · go_simp
  simp only [Act.put, List.setIfInBounds_toArray, List.set_cons_zero, List.set_cons_succ, List.getElem_toArray, List.getElem_cons_zero, List.getElem_cons_succ]
  refine wpAnyH_take (i := 26) (v := .bool false) rfl (by kernel_rfl) (by kernel_rfl) (by kernel_rfl) (fun _ _ _ h => h) (Or.inl ⟨by rfl, fun w hSw => ?_⟩) hHeld ?_
  · go_simp
  simp only [Act.put, List.setIfInBounds_toArray, List.set_cons_zero, List.set_cons_succ, List.getElem_toArray, List.getElem_cons_zero, List.getElem_cons_succ]
  have HB12 : Hid (Below w4.heap.size w4 w12) := B12
  clear hHeld
  refine wpAnyH_done (by kernel_rfl) ?_ _
  have HGc : Hid (OutB w12 gb u (.slice ta n tc)) := blkB HG4.out HB12.out
  have HSc : Hid (OutB w12 sb s.u (.slice sa s.n sc)) := blkB HS4.out HB12.out
  have HOc : Hid (OTab w12 base (.slice ta n tc) n PV L K X) := HO4.out.below HB12.out
  have HOd : Hid (OTab w12 sbase (.slice sa s.n sc) s.n SPV s.L s.K s.X) := HOs.out.below HB12.out
  have HWc : Hid (Below w.heap.size w w12) := grw HW4.out HB12.out
  clear B4 B5 B6 B7 B8 B9 B10 B11 B12 hb5 hb6 hb7 hb8 hb9 hb10 hb11 hb12 HO5 HD5 HO8 HD8 HO10 HFT HTG HO11 HD11 HN HB4 HG4 HS4 HO4 HOs HW4 HB12 a0 a1 a2 a3 a4 b0 b1 b2 b3 b4
  have hcl := implClasses_any s.u sa s.n sc _ _ _ s.L _ _ _ s.K s.X w12 (by omega) HFS.out.small HOd.out.tabs.2
  obtain ⟨b0, b1, b2, b3, b4, _⟩ := cells5 HSc.out
  go_wp2_with fail
  refine hcl.mono ?_
  clear hcl
  rintro e w13 ⟨hc13, hb13⟩
  obtain ⟨rg, rf, rfl, hrow, hcls⟩ := cls_of HSK.out.ok hc13
  have HRow : Hid (w13.rowIs rg 3 s.n (fun i => .int .i64 (rf i : Nat))) := hrow
  have HRf : Hid (∀ i, i < s.n → rf i = i) := show ∀ i, _ from fun i hi => shk_cls HSK.out hcls hi
  have HG13 : Hid (OutB w13 gb u (.slice ta n tc)) := blkB HGc.out hb13
  have HO13 : Hid (OTab w13 base (.slice ta n tc) n PV L K X) := HOc.out.below hb13
  have HW13 : Hid (Below w.heap.size w w13) := grw HWc.out hb13
  clear hc13 hb13 hrow hcls HGc HSc HOc HOd HWc b0 b1 b2 b3 b4
  go_wp2
  go_loopw [51] (fun ii wr => ∃ i : Nat, i ≤ s.n ∧ ii = .int .i64 i ∧ wr = w13) (fun ii _ => s.n - (intOf ii).toNat)
  case atStart => exact ⟨0, Nat.zero_le _, rfl, rfl⟩
  case round =>
    obtain ⟨i, hi, rfl, rfl⟩ := hrel
    by_cases hlt : i < s.n
    · have c0 := HRow.out.cell hlt
      rw [HRf.out i hlt] at c0
      have il : (0 : Int) ≤ (i : Int) ∧ (i : Int) < (s.n : Int) := by omega
      go_wp2
      go_roundw
      case rel => exact ⟨i + 1, by omega, by go_num, by first | rfl | trivial⟩
      case measure => simp [intOf]; omega
    · have hii : ¬ (i : Int) < (s.n : Int) := by omega
      go_upto_region 13 with fail
      have C13 : Below wr.heap.size wr wr.drew := (Below.refl _ _).drew
      refine wp_region_held_drew (S := fun w' => OutB w' gb u (.slice ta n tc)) (by kernel_rfl) HG13.out (fun hHeld => ?_)
      refine wpAnyH_take (i := 0) (v := .agg #[.int .i64 u.k, .int .i64 u.n, .string u.s, .int .i64 u.a, .slice ta n tc]) rfl (by kernel_rfl) (by kernel_rfl) (by kernel_rfl) (fun _ _ _ h => h) (Or.inl ⟨by rfl, fun w hSw => ?_⟩) hHeld ?_
      · obtain ⟨k0, k1, k2, k3, k4, _⟩ := cells5 hSw
        go_simp
      simp only [Act.put, List.setIfInBounds_toArray, List.set_cons_zero, List.set_cons_succ, List.getElem_toArray, List.getElem_cons_zero]
      refine wpAnyH_take (i := 2) (v := .agg #[.int .i64 u.k, .int .i64 u.n, .string u.s, .int .i64 u.a, .slice ta n tc]) rfl (by kernel_rfl) (by kernel_rfl) (by kernel_rfl) (fun _ _ _ h => h) (Or.inl ⟨by rfl, fun w hSw => ?_⟩) hHeld ?_
      · obtain ⟨k0, k1, k2, k3, k4, _⟩ := cells5 hSw
        go_simp
      simp only [Act.put, List.setIfInBounds_toArray, List.set_cons_zero, List.set_cons_succ, List.getElem_toArray, List.getElem_cons_zero, List.getElem_cons_succ]
      refine wpAnyH_ready (rs := [1]) (by kernel_rfl) (by simp) ?_
      refine AllReadyH.cons rfl (fun K' hK' => ?_) AllReadyH.nil
      have hcl := implClasses_any u ta n tc _ _ _ L _ _ _ K X wr.drew (by omega) HFI.out.small (HO13.out.below C13).tabs.2
      go_simp
      refine hcl.mono ?_
      clear hcl
      rintro e w14 ⟨hc14, hb14⟩
      obtain ⟨g14, f14, rfl, hr14, hk14⟩ := cls_of HOK.out hc14
      have C14 := grw C13 hb14
      have HR14 : Hid (w14.rowIs g14 3 n (fun i => .int .i64 (f14 i : Nat))) := hr14
      have HK14 : Hid (ClsAre n L K X f14) := hk14
      clear hc14 hr14 hk14
      refine hK'.out _ _ (blkB hHeld hb14) (fun hHeld => ?_)
      clear hK'
      try simp only [Act.put, List.setIfInBounds_toArray, List.set_cons_zero, List.set_cons_succ, List.getElem_toArray, List.getElem_cons_zero, List.getElem_cons_succ]
      refine wpAnyH_ready (rs := [3]) (by kernel_rfl) (by simp) ?_
      refine AllReadyH.cons rfl (fun K' hK' => ?_) AllReadyH.nil
      have hcl := specClasses_any u ta n tc _ _ _ L _ _ _ K X w14 (by omega) HFI.out.small (HO13.out.below C14).tabs.2
      go_simp
      refine hcl.mono ?_
      clear hcl
      rintro e w15 ⟨hc15, hb15⟩
      obtain ⟨g15, f15, rfl, hr15, hk15⟩ := cls_of HOK.out hc15
      have C15 := grw C14 hb15
      have HR15 : Hid (w15.rowIs g15 3 n (fun i => .int .i64 (f15 i : Nat))) := hr15
      have HK15 : Hid (ClsAre n L K X f15) := hk15
      clear hc15 hr15 hk15
      have HR4 : Hid (w15.rowIs g14 3 n (fun i => .int .i64 (f14 i : Nat))) := HR14.out.of_block (hb15.block _ HR14.out.lt)
      refine hK'.out _ _ (blkB hHeld hb15) (fun hHeld => ?_)
      clear hK'
      try simp only [Act.put, List.setIfInBounds_toArray, List.set_cons_zero, List.set_cons_succ, List.getElem_toArray, List.getElem_cons_zero, List.getElem_cons_succ]
      refine wpAnyH_ready (rs := [4]) (by kernel_rfl) (by simp) ?_
      refine AllReadyH.cons rfl (fun K' hK' => ?_) AllReadyH.nil
      have hcl := wInts_row g14 g15 n n n f14 f15 (fun i hi => ClsAre.uniq HOK.out HK15.out HK14.out hi) w15 (by omega) HR4.out HR15.out
      go_simp
      refine hcl.mono ?_
      clear hcl
      rintro e w16 ⟨rfl, hb16⟩
      have C16 : Hid (Below wr.heap.size wr w16) := grw C15 hb16
      refine hK'.out _ _ (blkB hHeld hb16) (fun hHeld => ?_)
      clear hK'
      try simp only [Act.put, List.setIfInBounds_toArray, List.set_cons_zero, List.set_cons_succ, List.getElem_toArray, List.getElem_cons_zero, List.getElem_cons_succ]
      refine wpAnyH_take (i := 5) (v := .bool true) rfl (by kernel_rfl) (by kernel_rfl) (by kernel_rfl) (fun _ _ _ h => h) (Or.inl ⟨by rfl, fun w hSw => ?_⟩) hHeld ?_
      · first | rfl | go_simp
      simp only [Act.put, List.setIfInBounds_toArray, List.set_cons_zero, List.set_cons_succ, List.getElem_toArray, List.getElem_cons_zero, List.getElem_cons_succ]
      clear hHeld
      refine wpAnyH_done (by kernel_rfl) ?_ _
      go_wp2
      go_ret
      exact ⟨rfl, grw HW13.out C16.out⟩

end Go.Proofs.Ytgflalfiopnmnaa

namespace Go.Proofs.Ytgflalfiopnmnaa
open Go.RowKit Vl
open Go.ChangeShapes Go.WideShapes Go.ChangeAt

set_option maxRecDepth 100000 in
theorem shrink2_holds_lifted (os : Os) (started : os.Started) (H : Type) (enc : TypeId × Value → H) :
    ReturnsInHanded {} Try.checked os 3 .any (Rows.fnShrinkSpec.pre6 enc Try.prog Try.f3 Rows.fnShrinkRow.domain false) (Rows.fnShrinkSpec.post enc Try.prog Try.f3 false true false false) := by
  refine returnsInHanded_of_change (C := Try.checked) ownK started (by kernel_rfl) Try.func3
    (ChangeSpec.witness6 (enc := enc) (C := Try.checked) false ⟨#[], #[.slice none 0 0, .slice none 0 0], []⟩ 8 (by kernel_rfl) (by kernel_rfl) (by kernel_rfl) (by kernel_rfl)) ?_
  intro W base args ds gs before hval0 hW hcnd _
  have hval : ∀ (j : Nat) t v, Try.f3.params[j]? = some t → args[j]? = some v → Value.okWide Try.prog W .any base t v := hval0
  have hW' := hW
  obtain ⟨p, q, hA0, hV, rfl, hfz, hnd⟩ := hW
  have hA : DataW.TrodAll enc Try.prog W 0 (fun _ => true) true Try.f3.params.toList args.toList ds p := hA0
  rw [Try.params3] at hA hval
  obtain ⟨v0, vs0, d0, ds0, p0, q0, hargs, rfl, rfl, h0, r0⟩ := trodAll_cons hA
  obtain ⟨v1, vs1, d1, ds1, p1, q1, hargs1, rfl, rfl, h1, r1⟩ := trodAll_cons r0
  obtain ⟨rfl, rfl, rfl⟩ := trodAll_nil r1
  subst hargs1
  obtain rfl : args = #[v0, v1] := by cases args; simp_all
  obtain ⟨rfl, rfl⟩ := trodVars_none hV
  obtain ⟨a0, len0, cap0, rfl⟩ := okWide_slice Try.underlying22 (hval 0 22 v0 rfl rfl)
  obtain ⟨a1, len1, cap1, rfl⟩ := okWide_slice Try.underlying22 (hval 1 22 v1 rfl rfl)
  have k0 := h0
  have k1 := h1
  have lt0 : ∀ x ∈ p0, x.block < W.heap.size := by obtain ⟨m, hm⟩ := k0; exact DataW.trod_lt m _ _ _ hm
  have lt1 : ∀ x ∈ p1, x.block < W.heap.size := by obtain ⟨m, hm⟩ := k1; exact DataW.trod_lt m _ _ _ hm
  obtain ⟨b, off, hB⟩ : ∃ b off, ByteR W a0 len0 b off ∧ len0 ≤ 9223372036854775807 := by
    obtain ⟨fuel, hf⟩ := h0
    rcases open_ints Try.underlying22 Try.underlying5 Try.cellsU8 hf with ⟨hcs, _⟩ | ⟨x, l, c, zs, hcs, _, hl, hm, hz, _, hcell, hwz⟩
    · simp [Value.cells] at hcs
      obtain ⟨rfl, rfl, rfl⟩ := hcs
      exact ⟨0, 0, fun i hi => by omega, by omega⟩
    · simp [Value.cells] at hcs
      obtain ⟨rfl, rfl, rfl⟩ := hcs
      exact byteR_of hl hm (by simpa using hz) hcell hwz
  obtain ⟨b', off', hB'⟩ : ∃ b off, ByteR W a1 len1 b off ∧ len1 ≤ 9223372036854775807 := by
    obtain ⟨fuel, hf⟩ := h1
    rcases open_ints Try.underlying22 Try.underlying5 Try.cellsU8 hf with ⟨hcs, _⟩ | ⟨x, l, c, zs, hcs, _, hl, hm, hz, _, hcell, hwz⟩
    · simp [Value.cells] at hcs
      obtain ⟨rfl, rfl, rfl⟩ := hcs
      exact ⟨0, 0, fun i hi => by omega, by omega⟩
    · simp [Value.cells] at hcs
      obtain ⟨rfl, rfl, rfl⟩ := hcs
      exact byteR_of hl hm (by simpa using hz) hcell hwz
  clear hA0 hval0
  refine (shrinkLaw2 a0 len0 cap0 b off a1 len1 cap1 b' off' W hB.1 hB.2 hB'.1 hB'.2).mono fun e W' ⟨he, bel⟩ => ?_
  subst he
  exact ⟨_, rfl, _, _, _, [], _, [], hW', trodAll_mk1 (shut_bool Try.underlying4 _), (trodAll_cons_mk (Below.trod laidOutK (by kernel_rfl) (of_decide_eq_true (by kernel_rfl)) k0 bel lt0) (trodAll_cons_mk (Below.trod laidOutK (by kernel_rfl) (of_decide_eq_true (by kernel_rfl)) k1 bel lt1) trodAll_mk0)), rfl, bel.frame _, fun h => by cases h⟩

theorem shrink2_holds : Rows.FnShrinkSaid :=
  OpenClaim.holds_of_wide 3 Try.f3 rfl rfl rfl rfl rfl rfl rfl ⟨rfl, rfl, rfl, rfl, rfl⟩ rfl rfl rfl rfl rfl (by kernel_rfl) Try.func3 (by kernel_rfl)
    (of_decide_eq_true (by kernel_rfl)) (by unfold Func.isWrapper; first | (rw [if_pos (by decide +kernel)]; kernel_rfl) | (rw [if_neg (by decide +kernel)]; exact ⟨rfl, rfl⟩))
    (fun os started H enc _ => shrink2_holds_lifted os started H enc)
#print axioms shrink2_holds

end Go.Proofs.Ytgflalfiopnmnaa
