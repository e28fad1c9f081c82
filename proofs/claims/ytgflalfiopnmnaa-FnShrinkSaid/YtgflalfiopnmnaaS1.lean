import Derived.Test.YtgflalfiopnmnaaLkLink
import Derived.Test.YtgflalfiopnmnaaGrEq2a
import Derived.Test.YtgflalfiopnmnaaOnlyB
import Derived.Test.YtgflalfiopnmnaaLkMap
import Derived.LaidEql
namespace Go.Proofs.Ytgflalfiopnmnaa
open Go.RowKit Vl

/-- The world ahead of the tables: the graph, the place of the answer, the row of the tables. -/
structure Ahead (w wr : World) (g : Array Value) : Prop where
  graph : wr.heap[w.heap.size]? = some (.cells g 27 (0, 0))
  res : wr.heap[w.heap.size + 1]? = some (.cells #[.nilIface, .slice none 0 0] 106 (0, 0))
  bel : Below w.heap.size w wr

theorem Ahead.only {w wr wr' : World} {g : Array Value} {P : Nat → Prop} (h : Ahead w wr g) (ho : Only P wr wr') (hP : ∀ k, P k → w.heap.size + 2 ≤ k) : Ahead w wr' g :=
  ⟨(ho.block _ (blk_lt h.graph) (fun x => by have := hP _ x; omega)).trans h.graph, (ho.block _ (blk_lt h.res) (fun x => by have := hP _ x; omega)).trans h.res,
   h.bel.trans (ho.toBelow (fun k x => by have := hP k x; omega) h.bel.size)⟩
theorem Ahead.below {w wr wr' : World} {g : Array Value} (h : Ahead w wr g) (hb : Below wr.heap.size wr wr') : Ahead w wr' g :=
  ⟨(hb.block _ (blk_lt h.graph)).trans h.graph, (hb.block _ (blk_lt h.res)).trans h.res, grw h.bel hb⟩

theorem two_at {w : World} {B : Nat} {a b : Value} {t : TypeId} (H : w.heap[B]? = some (.cells #[a, b] t (0, 0))) : w.cell? ⟨B, 0, none⟩ = some a ∧ w.cell? ⟨B, 1, none⟩ = some b ∧ ∀ i, w.frozen? ⟨B, i, none⟩ = false := by
  refine ⟨?_, ?_, fun i => ?_⟩ <;> simp [World.cell?, World.frozen?, H]
theorem two_put {w : World} {B : Nat} {a b : Value} {t : TypeId} (H : w.heap[B]? = some (.cells #[a, b] t (0, 0))) (a' b' : Value) : ((w.setCell ⟨B, 0, none⟩ a').setCell ⟨B, 1, none⟩ b').heap[B]? = some (.cells #[a', b'] t (0, 0)) := by
  simp [World.setCell, Array.getElem?_modify, H]

/-- All tables are there: r of them are filled. -/
structure Half (w : World) (b n r : Nat) (base : Nat → Nat) (L : Nat → Nat) (K X : Nat → Nat → V) : Prop where
  row : w.rowIs (b + 2) 63 n (fun j => .pointer (some ⟨tT b j, 0, none⟩))
  full : ∀ j, j < r → Filled w (tT b j) (tM b j) (base j) j (tT b) (K j) (X j) (L j) ∧ b + 3 + 2 * n ≤ base j
  empty : ∀ j, r ≤ j → j < n → TabB w (tT b j) (tM b j) j (.slice none 0 0) ∧ MapIs w (tM b j) []
  size : b + 3 + 2 * n ≤ w.heap.size

theorem Half.tabs {w : World} {b n r : Nat} {base L : Nat → Nat} {K X : Nat → Nat → V} (h : Half w b n r base L K X) : Tabs w (some ⟨b + 2, 0, none⟩) (b + 2) n (tT b) := by
  refine ⟨fun _ => rfl, fun j hj => h.row.cell hj, fun j hj => ?_⟩
  by_cases e : j < r
  · obtain ⟨ord, h1, _⟩ := (h.full j e).1.tab
    exact h1.cells.1
  · exact (h.empty j (by omega) hj).1.cells.1

theorem Half.below {w w' : World} {b n r : Nat} {base L : Nat → Nat} {K X : Nat → Nat → V} (h : Half w b n r base L K X) (hb : Below w.heap.size w w') : Half w' b n r base L K X :=
  ⟨h.row.of_block (hb.block _ h.row.lt), fun j hj => ⟨(h.full j hj).1.below hb, (h.full j hj).2⟩, fun j h1 h2 => ⟨(hb.block _ (blk_lt (h.empty j h1 h2).1)).trans (h.empty j h1 h2).1, (h.empty j h1 h2).2.same (hb.block _ (h.empty j h1 h2).2.lt)⟩, Nat.le_trans h.size hb.size⟩

/-- One more is filled. -/
theorem Half.fill {w w' : World} {b n r : Nat} {base L : Nat → Nat} {K X : Nat → Nat → V} (h : Half w b n r base L K X) (hr : r < n) (ho : Only (fun k => k = tT b r ∨ k = tM b r) w w') (hf : Filled w' (tT b r) (tM b r) w.heap.size r (tT b) (K r) (X r) (L r)) :
    Half w' b n (r + 1) (fun j => if j = r then w.heap.size else base j) L K X := by
  have hs := h.size
  refine ⟨h.row.of_block (ho.block _ h.row.lt (by unfold tT tM; omega)), fun j hj => ?_, fun j h1 h2 => ?_, Nat.le_trans hs ho.size⟩
  · by_cases e : j = r
    · subst e; simp only [if_true]; exact ⟨hf, hs⟩
    · simp only [if_neg e]
      obtain ⟨f1, f2⟩ := h.full j (by omega)
      exact ⟨f1.only ho (by unfold tT tM; omega) (by unfold tT tM; omega) (fun g hg => by unfold tT tM; omega), f2⟩
  · obtain ⟨e1, e2⟩ := h.empty j (by omega) h2
    exact ⟨(ho.block _ (blk_lt e1) (by unfold tT tM; omega)).trans e1, e2.same (ho.block _ e2.lt (by unfold tT tM; omega))⟩

theorem Laid.half {w : World} {b n : Nat} {L : Nat → Nat} {K X : Nat → Nat → V} (h : Laid w b n n) : Half w b n 0 (fun _ => 0) L K X :=
  ⟨h.row.congr (fun j hj => by rw [if_pos hj]), fun j hj => by omega, fun j _ h2 => h.tab j h2, by rw [h.size]; omega⟩

theorem ifv_form (Tt : Nat → Nat) (u : V) : ∃ t y, ifv Tt u = .iface t y := by
  unfold ifv
  split
  · exact ⟨_, _, rfl⟩
  · split
    · exact ⟨_, _, rfl⟩
    · split
      · exact ⟨_, _, rfl⟩
      · split
        · exact ⟨_, _, rfl⟩
        · exact ⟨_, _, rfl⟩

set_option maxHeartbeats 2000000 in
set_option maxRecDepth 100000 in
/-- 'link'. -/
theorem link_any (u : V) (ta : Option Addr) (n cp TB TO : Nat) (A : Nat → Option Addr) (L C RB RO : Nat → Nat) (K X : Nat → Nat → V) (w : World) (hn : n ≤ 1048576)
    (HS : Hid (Small 1048576 n L K X)) (HT : Hid (TabsAt w ta n TB TO A L C RB RO K X)) :
    Calls Try.prog 52 #[.agg #[.int .i64 u.k, .int .i64 u.n, .string u.s, .int .i64 u.a, .slice ta n cp]] w fun e w' =>
      ((OkG n u L K X ∧ e = .returned (.tuple #[.agg #[ifv (tT w.heap.size) u, .slice (some ⟨w.heap.size + 2, 0, none⟩) n n], .bool true]) ∧ ∃ base, Half w' w.heap.size n n base L K X) ∨ (¬ OkG n u L K X ∧ e = .returned (.tuple #[.agg #[.nilIface, .slice none 0 0], .bool false]))) ∧ Below w.heap.size w w' := by
  obtain ⟨b, hb⟩ : ∃ b, w.heap.size = b := ⟨_, rfl⟩
  have A2 : Hid _ := alloc2 w (.cells #[.int .i64 u.k, .int .i64 u.n, .string u.s, .int .i64 u.a, .slice ta n cp] 27) (.cells #[.nilIface, .slice none 0 0] 106)
  obtain ⟨wa, hwa⟩ : ∃ wa, wa = (w.alloc (.cells #[.int .i64 u.k, .int .i64 u.n, .string u.s, .int .i64 u.a, .slice ta n cp] 27)).alloc (.cells #[.nilIface, .slice none 0 0] 106) := ⟨_, rfl⟩
  have HA : Hid (Ahead w wa #[.int .i64 u.k, .int .i64 u.n, .string u.s, .int .i64 u.a, .slice ta n cp]) := by rw [hwa]; exact ⟨A2.out.1, A2.out.2.1, A2.out.2.2.2⟩
  have hsa : Hid (wa.heap.size = w.heap.size + 2) := by rw [hwa]; exact A2.out.2.2.1
  clear A2
  obtain ⟨g0, g1, g2, g3, g4, _⟩ := cells5 HA.out.graph
  by_cases h200 : n ≤ 200
  · have hmk := run_make_n 58 63 _ 1 8 Try.underlying58 Try.info63 n (by omega) (by omega)
    simp only [Nat.mul_one] at hmk
    have hmm := @run_makeMap Try.prog
    go_enter Try.func52, Try.ntmps52
    go_wp2
    rw [← hwa]
    have hsa' : wa.heap.size = b + 2 := by have := hsa.out; omega
    have HA1 : Hid (Ahead w (wa.alloc (.cells (madeCells #[.pointer none] n) 63)) #[.int .i64 u.k, .int .i64 u.n, .string u.s, .int .i64 u.a, .slice ta n cp]) := by
      have h := HA.out
      exact ⟨(Below.heap_alloc _ _ _ (blk_lt h.graph)).trans h.graph, (Below.heap_alloc _ _ _ (blk_lt h.res)).trans h.res, h.bel.alloc h.bel.size _⟩
    have HL1 : Hid (Laid (wa.alloc (.cells (madeCells #[.pointer none] n) 63)) b n 0) := by
      refine ⟨?_, fun j hj => by omega, by simp; omega⟩
      rw [← hsa']
      exact (row_made wa #[.pointer none] n 63).congr (fun i _ => by rw [if_neg (by omega)]; simp [Nat.mod_one])
    clear hmk hwa g0 g1 g2 g3 g4 hsa' hsa HA
    go_loopw [21] (fun ii wr => ∃ c : Nat, c ≤ n ∧ ii = .int .i64 c ∧ Hid (Laid wr b n c) ∧ Hid (Ahead w wr #[.int .i64 u.k, .int .i64 u.n, .string u.s, .int .i64 u.a, .slice ta n cp])) (fun ii _ => n - (intOf ii).toNat)
    case atStart => exact ⟨0, Nat.zero_le _, rfl, HL1, HA1⟩
    case round =>
      obtain ⟨c, hc, rfl, HL, HAr⟩ := hrel
      clear HL1 HA1
      by_cases hlt : c < n
      · have hs := HL.out.size
        have c0 : ∀ o1 o2, ((wr.alloc o1).alloc o2).cell? ⟨b + 1 + 1, c, none⟩ = some (.pointer none) := fun o1 o2 => by
          have := ((HL.out.row.alloc o1).alloc o2).cell hlt
          rw [if_neg (by omega)] at this
          exact this
        have z0 : ∀ o1 o2 j, ((wr.alloc o1).alloc o2).frozen? ⟨b + 1 + 1, j, none⟩ = false := fun o1 o2 => ((HL.out.row.alloc o1).alloc o2).frozen
        have HN := HL.out.next hlt
        have HA2 : Hid (Ahead w (((wr.alloc (.map #[] 0)).alloc (.cells #[.int .i64 c, .map (some (tM b c)), .slice none 0 0] 66)).setCell ⟨b + 2, c, none⟩ (.pointer (some ⟨tT b c, 0, none⟩))) #[.int .i64 u.k, .int .i64 u.n, .string u.s, .int .i64 u.a, .slice ta n cp]) := by
          have h := HAr.out
          have A := alloc2 wr (.map #[] 0) (.cells #[.int .i64 c, .map (some (tM b c)), .slice none 0 0] 66)
          refine ⟨?_, ?_, ?_⟩
          · rw [Below.heap_setCell _ _ _ _ (show w.heap.size ≠ b + 2 by omega), A.2.2.2.block _ (blk_lt h.graph)]; exact h.graph
          · rw [Below.heap_setCell _ _ _ _ (show w.heap.size + 1 ≠ b + 2 by omega), A.2.2.2.block _ (blk_lt h.res)]; exact h.res
          · exact (grw h.bel A.2.2.2).setCell (by show w.heap.size ≤ b + 2; omega) _
        have HN2 : Hid (Laid (((wr.alloc (.map #[] 0)).alloc (.cells #[.int .i64 c, .map (some (tM b c)), .slice none 0 0] 66)).setCell ⟨b + 2, c, none⟩ (.pointer (some ⟨tT b c, 0, none⟩))) b n (c + 1)) := HN
        clear HN HL HAr
        go_wp2
        go_roundw
        case rel =>
          have e : b + 3 + 2 * c + 1 = b + 4 + 2 * c := by omega
          rw [e]
          exact ⟨c + 1, by omega, by go_num, HN2, HA2⟩
        case measure => simp [intOf]; omega
      · obtain rfl : c = n := by omega
        have HH : Hid (Half wr b c 0 (fun _ => 0) L K X) := HL.out.half
        obtain ⟨g0, g1, g2, g3, g4, _⟩ := cells5 HAr.out.graph
        rw [hb] at g0 g1 g2 g3 g4
        clear HL hmm
        go_wp2
        clear g0 g1 g2 g3 g4
        obtain ⟨wh, hwh⟩ : ∃ wh, wh = wr := ⟨_, rfl⟩
        rw [← hwh] at HH HAr
        go_loopw [35] (fun ii wr => ∃ (r : Nat) (base : Nat → Nat), r ≤ c ∧ ii = .int .i64 r ∧ Hid (Half wr b c r base L K X) ∧ Hid (∀ q, q < r → OkT c (L q) (K q) (X q)) ∧ Hid (Ahead w wr #[.int .i64 u.k, .int .i64 u.n, .string u.s, .int .i64 u.a, .slice ta c cp])) (fun ii _ => c - (intOf ii).toNat)
        case atStart => rw [← hwh]; exact ⟨0, _, Nat.zero_le _, rfl, HH, fun q hq => absurd hq (Nat.not_lt_zero _), HAr⟩
        case round =>
          obtain ⟨r, base, hr, rfl, HHr, HQ, HAr2⟩ := hrel
          clear HH HAr hwh
          by_cases hlt : r < c
          · obtain rfl := HT.out.top (by omega)
            have HTr : Hid (TabsAt wr (some ⟨TB, TO, none⟩) c TB TO A L C RB RO K X) := HT.out.below HAr2.out.bel
            have t0 := HTr.out.tab r hlt
            obtain ⟨wv, hwv⟩ : ∃ wv, wv = wr.alloc (.cells #[.slice (A r) (L r) (C r)] 73) := ⟨_, rfl⟩
            have HBv : Hid (Below wr.heap.size wr wv) := by rw [hwv]; exact (Below.refl _ _).alloc (Nat.le_refl _) _
            have HHv : Hid (Half wv b c r base L K X) := HHr.out.below HBv.out
            have hbv : b + 3 + 2 * c ≤ wr.heap.size := HHr.out.size
            have HAv : Hid (Ahead w wv #[.int .i64 u.k, .int .i64 u.n, .string u.s, .int .i64 u.a, .slice (some ⟨TB, TO, none⟩) c cp]) := by
              have h := HAr2.out
              exact ⟨(HBv.out.block _ (blk_lt h.graph)).trans h.graph, (HBv.out.block _ (blk_lt h.res)).trans h.res, grw h.bel HBv.out⟩
            have v0 : wv.cell? ⟨wr.heap.size, 0, none⟩ = some (.slice (A r) (L r) (C r)) := by rw [hwv]; exact (one_at (heap_alloc_new wr (.cells #[.slice (A r) (L r) (C r)] 73))).1
            have p0 : wv.cell? ⟨b + 1 + 1, r, none⟩ = some (.pointer (some ⟨b + 4 + 2 * r, 0, none⟩)) := HHv.out.row.cell hlt
            have hfill := fill_any (b + 4 + 2 * r) (b + 3 + 2 * r) r (A r) (L r) (C r) (RB r) (RO r) (K r) (X r) (some ⟨b + 1 + 1, 0, none⟩) (b + 2) c c (tT b) wv.drew (HS.out r hlt).1
              (HHv.out.empty r (Nat.le_refl _) hlt).1 (HHv.out.empty r (Nat.le_refl _) hlt).2 ((HTr.out.below HBv.out.drew).row r hlt) (HHv.out.tabs.below ((Below.refl _ _).drew)) (by omega)
              (show _ → _ from fun h => by have := World.block_lt_of_cell? _ _ ((HT.out.row r hlt).key 0 h).1; simp only at this; omega)
              (show _ → _ from fun _ => by omega) (show ∀ j, _ from fun j hj => by constructor <;> (try unfold tT) <;> (try intro) <;> omega)
            obtain ⟨vb, hvb⟩ : ∃ vb, wr.heap.size = vb := ⟨_, rfl⟩
            rw [hvb] at v0 hbv
            go_wp2
            rw [← hwv]
            clear hwv hvb t0
            have p0d : wv.drew.cell? ⟨b + 1 + 1, r, none⟩ = some (.pointer (some ⟨b + 4 + 2 * r, 0, none⟩)) := p0
            have v0d : wv.drew.cell? ⟨vb, 0, none⟩ = some (.slice (A r) (L r) (C r)) := v0
            have hn1 : ¬ (b + 1 + 1 = b + 4 + 2 * r ∨ b + 1 + 1 = b + 3 + 2 * r) := by omega
            have hn2 : ¬ (vb = b + 4 + 2 * r ∨ vb = b + 3 + 2 * r) := by omega
            go_region_held3 (fun w' => w'.cell? ⟨b + 1 + 1, r, none⟩ = some (.pointer (some ⟨b + 4 + 2 * r, 0, none⟩)) ∧ w'.cell? ⟨vb, 0, none⟩ = some (.slice (A r) (L r) (C r)))
              (first | with_reducible exact S3.out | exact ⟨p0, v0⟩)
              ((go_at_call 86; refine hfill.mono ?_; rintro e w3 ⟨⟨bb, rfl, hbb⟩, hO3, hF3⟩; have S3 : Hid (w3.cell? ⟨b + 1 + 1, r, none⟩ = some (.pointer (some ⟨b + 4 + 2 * r, 0, none⟩)) ∧ w3.cell? ⟨vb, 0, none⟩ = some (.slice (A r) (L r) (C r))) := show _ ∧ _ from ⟨hO3.cell (p := ⟨b + 1 + 1, r, none⟩) p0d hn1, hO3.cell (p := ⟨vb, 0, none⟩) v0d hn2⟩))
            clear hfill p0 v0 p0d v0d S3 hn1 hn2
            have HA3 : Hid (Ahead w w3 #[.int .i64 u.k, .int .i64 u.n, .string u.s, .int .i64 u.a, .slice (some ⟨TB, TO, none⟩) c cp]) := (show Ahead w wv.drew _ from HAv.out.below ((Below.refl _ _).drew)).only hO3 (fun k h => by omega)
            cases bb
            · have HN : Hid (¬ OkG c u L K X) := show ¬ OkG c u L K X from fun h => by have := hbb.2 (h.all r hlt); cases this
              clear hF3 hbb hO3
              have R0 : Hid (w3.heap[b + 1]? = some (.cells #[.nilIface, .slice none 0 0] 106 (0, 0))) := by rw [← hb]; exact HA3.out.res
              obtain ⟨r0, r1, rz⟩ := two_at R0.out
              go_wp2
              have R1 := two_put R0.out .nilIface (.slice none 0 0)
              obtain ⟨q0, q1, _⟩ := two_at R1
              refine bodyPost_ret (v := .tuple #[.agg #[.nilIface, .slice none 0 0], .bool false]) (by simp [results, Try.results52, go_sem, q0, q1]) rfl ⟨Or.inr ⟨HN.out, rfl⟩, ?_⟩
              exact (HA3.out.bel.setCell (by show w.heap.size ≤ b + 1; omega) _).setCell (by show w.heap.size ≤ b + 1; omega) _
            · have HF : Hid (Filled w3 (tT b r) (tM b r) wv.heap.size r (tT b) (K r) (X r) (L r)) := hF3 (hbb.1 rfl)
              have HH3 : Hid (Half w3 b c (r + 1) (fun j => if j = r then wv.heap.size else base j) L K X) := HHv.out.fill hlt (show Only _ wv w3 from ⟨hO3.os, hO3.tape, hO3.output, hO3.size, hO3.block⟩) HF.out
              have HQ3 : Hid (∀ q, q < r + 1 → OkT c (L q) (K q) (X q)) := show ∀ q, q < r + 1 → _ from fun q hq => by
                by_cases e : q = r
                · subst e; exact hbb.1 rfl
                · exact HQ.out q (by omega)
              clear hF3 hbb hO3 HF HQ
              go_wp2
              go_roundw
              case rel => exact ⟨r + 1, _, by omega, by go_num, HH3, HQ3, HA3⟩
              case measure => simp [intOf]; omega
          · obtain rfl : r = c := by omega
            obtain ⟨g0, g1, g2, g3, g4, _⟩ := cells5 HAr2.out.graph
            rw [hb] at g0 g1 g2 g3 g4
            have hof := of_any u (some ⟨b + 1 + 1, 0, none⟩) (b + 2) r r (tT b) wr HHr.out.tabs
            obtain ⟨bu, hbu⟩ : ∃ x, isV r u = x := ⟨_, rfl⟩
            rw [hbu] at hof
            go_wp2_with fail
            refine hof.mono ?_
            clear hof
            rintro e w3 ⟨rfl, hb3⟩
            have HA3 : Hid (Ahead w w3 #[.int .i64 u.k, .int .i64 u.n, .string u.s, .int .i64 u.a, .slice ta r cp]) := HAr2.out.below hb3
            have HH3 : Hid (Half w3 b r r base L K X) := HHr.out.below hb3
            clear hb3 HAr2 HHr g0 g1 g2 g3 g4
            have R0 : Hid (w3.heap[b + 1]? = some (.cells #[.nilIface, .slice none 0 0] 106 (0, 0))) := by rw [← hb]; exact HA3.out.res
            obtain ⟨r0, r1, rz⟩ := two_at R0.out
            cases bu
            · have HN : Hid (¬ OkG r u L K X) := show ¬ OkG r u L K X from fun h => by have := h.root; rw [hbu] at this; cases this
              clear hbu
              go_wp2
              have R1 := two_put R0.out .nilIface (.slice none 0 0)
              obtain ⟨q0, q1, _⟩ := two_at R1
              refine bodyPost_ret (v := .tuple #[.agg #[.nilIface, .slice none 0 0], .bool false]) (by simp [results, Try.results52, go_sem, q0, q1]) rfl ⟨Or.inr ⟨HN.out, rfl⟩, ?_⟩
              exact (HA3.out.bel.setCell (by show w.heap.size ≤ b + 1; omega) _).setCell (by show w.heap.size ≤ b + 1; omega) _
            · have HG : Hid (OkG r u L K X) := show OkG r u L K X from ⟨h200, hbu, HQ.out⟩
              obtain ⟨xt, xy, hxv⟩ := ifv_form (tT b) u
              have HXV : Hid (ifv (tT b) u = .iface xt xy) := hxv
              rw [if_pos rfl, HXV.out]
              clear hxv
              clear hbu
              go_wp2
              have R1 := two_put R0.out (.iface xt xy) (.slice (some ⟨b + 1 + 1, 0, none⟩) r r)
              obtain ⟨q0, q1, _⟩ := two_at R1
              refine bodyPost_ret (v := .tuple #[.agg #[.iface xt xy, .slice (some ⟨b + 1 + 1, 0, none⟩) r r], .bool true]) (by simp [results, Try.results52, go_sem, q0, q1]) rfl ⟨Or.inl ⟨HG.out, ?_, base, ?_⟩, ?_⟩
              · rw [hb, HXV.out]
              · rw [hb]
                have h := HH3.out
                have k1 : ∀ k, k ≠ b + 1 → (((w3.setCell ⟨b + 1, 0, none⟩ (.iface xt xy)).setCell ⟨b + 1, 1, none⟩ (.slice (some ⟨b + 1 + 1, 0, none⟩) r r))).heap[k]? = w3.heap[k]? := fun k hk => by
                  rw [Below.heap_setCell _ _ _ _ (show k ≠ b + 1 from hk), Below.heap_setCell _ _ _ _ (show k ≠ b + 1 from hk)]
                have ho : Only (fun k => k = b + 1) w3 (((w3.setCell ⟨b + 1, 0, none⟩ (.iface xt xy)).setCell ⟨b + 1, 1, none⟩ (.slice (some ⟨b + 1 + 1, 0, none⟩) r r))) := ⟨rfl, rfl, rfl, by simp [World.setCell], fun k _ hk => k1 k hk⟩
                refine ⟨h.row.of_block (k1 _ (by omega)), fun j hj => ⟨(h.full j hj).1.only ho (by unfold tT; omega) (by unfold tM; omega) (fun g hg => by have := (h.full j hj).2; omega), (h.full j hj).2⟩, fun j h1 h2 => by omega, ?_⟩
                have := h.size
                simp [World.setCell]
                omega
              · exact (HA3.out.bel.setCell (by show w.heap.size ≤ b + 1; omega) _).setCell (by show w.heap.size ≤ b + 1; omega) _
  · have HN : Hid (¬ OkG n u L K X) := show ¬ OkG n u L K X from fun h => h200 h.len
    have hgt : 200 < n := by omega
    have R0 : Hid (wa.heap[b + 1]? = some (.cells #[.nilIface, .slice none 0 0] 106 (0, 0))) := by rw [← hb]; exact HA.out.res
    obtain ⟨r0, r1, rz⟩ := two_at R0.out
    rw [hb] at g0 g1 g2 g3 g4
    go_enter Try.func52, Try.ntmps52
    go_wp2
    rw [← hwa]
    refine bodyPost_ret (v := .tuple #[.agg #[.nilIface, .slice none 0 0], .bool false]) (by simp [results, Try.results52, go_sem, r0, r1]) rfl ⟨Or.inr ⟨HN.out, rfl⟩, HA.out.bel⟩

end Go.Proofs.Ytgflalfiopnmnaa

namespace Go.Proofs.Ytgflalfiopnmnaa
open Go.RowKit Vl

theorem bytes_empty {s : ByteArray} (h : s.toList = []) : s = ⟨#[]⟩ := by
  rw [ByteArray.toList_eq] at h
  obtain ⟨⟨l⟩⟩ := s
  simp at h
  subst h
  rfl

def zeroV : V := ⟨0, 0, ⟨#[]⟩, 0⟩

/-- What a table has at a key. -/
def atKey (L : Nat) (K X : Nat → V) (k : V) : V :=
  match (List.range L).find? (fun j => eqV (K j) k) with
  | some j => X j
  | none => zeroV

theorem atKey_hit {L : Nat} {K X : Nat → V} {k : V} {j : Nat} (hj : j < L) (h : eqV (K j) k = true) (hb : ∀ i, i < j → eqV (K i) k = false) : atKey L K X k = X j := by
  have : (List.range L).find? (fun j => eqV (K j) k) = some j := by
    rw [List.find?_range_eq_some]
    exact ⟨h, List.mem_range.2 hj, fun i hi => by rw [hb i hi]; rfl⟩
  unfold atKey
  rw [this]
theorem atKey_none {L : Nat} {K X : Nat → V} {k : V} (h : ∀ j, j < L → eqV (K j) k = false) : atKey L K X k = zeroV := by
  have : (List.range L).find? (fun j => eqV (K j) k) = none := by
    rw [List.find?_eq_none]
    intro j hj
    rw [h j (List.mem_range.1 hj)]
    simp
  unfold atKey
  rw [this]

theorem find_js {v : V} {K : Nat → V} {f : Nat → Value} : ∀ (js : List Nat), findV v (js.map fun j => (K j, f j)) = (js.find? (fun j => eqV (K j) v)).map f
  | [] => rfl
  | j :: js => by
    simp only [List.map_cons, findV, List.find?_cons]
    rw [eqV_comm v (K j)]
    cases h : eqV (K j) v
    · simp only [Bool.false_eq_true, if_false]; exact find_js js
    · simp

theorem find_mp (Tt : Nat → Nat) (K X : Nat → V) (L : Nat) (k : V) : (findV k (mp Tt K X L)).getD (ifv Tt zeroV) = ifv Tt (atKey L K X k) := by
  unfold mp atKey
  rw [find_js]
  cases (List.range L).find? (fun j => eqV (K j) k) <;> rfl

/-- One step along a path. -/
def step (L : Nat → Nat) (K X : Nat → Nat → V) (v k : V) : V := if v.k = 4 then atKey (L v.a.toNat) (K v.a.toNat) (X v.a.toNat) k else zeroV
/-- Where the first i keys lead. -/
def lead (u : V) (L : Nat → Nat) (K X : Nat → Nat → V) (P : Nat → V) : Nat → V
  | 0 => u
  | i + 1 => step L K X (lead u L K X P i) (P i)

theorem zero_stays {L : Nat → Nat} {K X : Nat → Nat → V} {u : V} {P : Nat → V} {i : Nat} (h : (lead u L K X P i).k ≠ 4) : ∀ j, lead u L K X P (i + 1 + j) = zeroV
  | 0 => by show step L K X (lead u L K X P i) (P i) = zeroV; unfold step; rw [if_neg h]
  | j + 1 => by
    show step L K X (lead u L K X P (i + 1 + j)) (P (i + 1 + j)) = zeroV
    rw [zero_stays h j]
    rfl

theorem isV_zero (n : Nat) : isV n zeroV = true := by
  simp [isV, zeroV, ByteArray.toList_eq]

theorem isV_at {n L : Nat} {K X : Nat → V} (h : OkT n L K X) (k : V) : isV n (atKey L K X k) = true := by
  unfold atKey
  cases hf : (List.range L).find? (fun j => eqV (K j) k) with
  | none => exact isV_zero n
  | some j =>
    have := List.mem_of_find?_eq_some hf
    exact (h.all j (List.mem_range.1 this)).val

theorem isV_tab {n : Nat} {v : V} (h : isV n v = true) (h4 : v.k = 4) : 0 ≤ v.a ∧ v.a < n := by
  obtain ⟨k, m, s, a⟩ := v
  subst h4
  simp [isV] at h
  exact ⟨h.2.2.1, h.2.2.2⟩

theorem isV_lead {n : Nat} {u : V} {L : Nat → Nat} {K X : Nat → Nat → V} {P : Nat → V} (h : OkG n u L K X) : ∀ i, isV n (lead u L K X P i) = true
  | 0 => h.root
  | i + 1 => by
    show isV n (step L K X (lead u L K X P i) (P i)) = true
    unfold step
    by_cases h4 : (lead u L K X P i).k = 4
    · rw [if_pos h4]
      have := isV_tab (isV_lead h i) h4
      exact isV_at (h.all _ (by omega)) _
    · rw [if_neg h4]; exact isV_zero n

end Go.Proofs.Ytgflalfiopnmnaa

/-
  The order in which tables are met, and the graph that is numbered so. No Go in sight.
-/
namespace Go.Proofs.Ytgflalfiopnmnaa
open Vl

/-- The tables that are met from v on, behind those of S. -/
def met (L : Nat → Nat) (X : Nat → Nat → V) : Nat → List Nat → V → List Nat
  | 0, S, _ => S
  | f + 1, S, v => if v.k = 4 ∧ v.a.toNat ∉ S then (List.range (L v.a.toNat)).foldl (fun T c => met L X f T (X v.a.toNat c)) (S ++ [v.a.toNat]) else S

/-- The first c values of a table, one after another. -/
def mets (L : Nat → Nat) (X : Nat → Nat → V) (f : Nat) (S : List Nat) (x : Nat → V) (c : Nat) : List Nat := (List.range c).foldl (fun T c => met L X f T (x c)) S
theorem mets_zero (L : Nat → Nat) (X : Nat → Nat → V) (f : Nat) (S : List Nat) (x : Nat → V) : mets L X f S x 0 = S := rfl
theorem mets_succ (L : Nat → Nat) (X : Nat → Nat → V) (f : Nat) (S : List Nat) (x : Nat → V) (c : Nat) : mets L X f S x (c + 1) = met L X f (mets L X f S x c) (x c) := by
  simp [mets, List.range_succ]
theorem met_new {L : Nat → Nat} {X : Nat → Nat → V} {f : Nat} {S : List Nat} {v : V} (h : v.k = 4) (hn : v.a.toNat ∉ S) : met L X (f + 1) S v = mets L X f (S ++ [v.a.toNat]) (X v.a.toNat) (L v.a.toNat) := by
  show (if v.k = 4 ∧ v.a.toNat ∉ S then _ else S) = _
  rw [if_pos ⟨h, hn⟩]
  rfl
theorem met_old {L : Nat → Nat} {X : Nat → Nat → V} {f : Nat} {S : List Nat} {v : V} (h : v.k ≠ 4 ∨ v.a.toNat ∈ S) : met L X f S v = S := by
  cases f with
  | zero => rfl
  | succ f =>
    show (if v.k = 4 ∧ v.a.toNat ∉ S then _ else S) = S
    rw [if_neg]
    rintro ⟨h1, h2⟩
    rcases h with h | h
    · exact h h1
    · exact h2 h

/-- S grows to T: nothing twice, no table that is not there. -/
structure Grows (n : Nat) (S T : List Nat) : Prop where
  pre : S <+: T
  nd : T.Nodup
  lt : ∀ r ∈ T, r < n
structure Fit (n : Nat) (S : List Nat) : Prop where
  nd : S.Nodup
  lt : ∀ r ∈ S, r < n
theorem Grows.fit {n : Nat} {S T : List Nat} (h : Grows n S T) : Fit n T := ⟨h.nd, h.lt⟩
theorem Fit.refl {n : Nat} {S : List Nat} (h : Fit n S) : Grows n S S := ⟨List.prefix_refl _, h.nd, h.lt⟩
theorem Fit.nil (n : Nat) : Fit n [] := ⟨List.nodup_nil, fun r h => by cases h⟩
theorem Grows.trans {n : Nat} {S T U : List Nat} (h : Grows n S T) (k : Grows n T U) : Grows n S U := ⟨h.pre.trans k.pre, k.nd, k.lt⟩
theorem Fit.add {n : Nat} {S : List Nat} (h : Fit n S) {r : Nat} (hr : r < n) (hn : r ∉ S) : Grows n S (S ++ [r]) :=
  ⟨List.prefix_append _ _, by
    rw [List.nodup_append]
    exact ⟨h.nd, by simp, fun a ha b hb => by simp at hb; subst hb; exact fun e => hn (e ▸ ha)⟩, fun q hq => by
    rcases List.mem_append.1 hq with h' | h'
    · exact h.lt q h'
    · simp at h'; omega⟩
theorem Grows.len {n : Nat} {S T : List Nat} (h : Grows n S T) : S.length ≤ T.length := h.pre.length_le
theorem Grows.mem {n : Nat} {S T : List Nat} (h : Grows n S T) {r : Nat} (hr : r ∈ S) : r ∈ T := h.pre.subset hr
theorem nodup_len : ∀ (S T : List Nat), S.Nodup → (∀ r ∈ S, r ∈ T) → S.length ≤ T.length
  | [], _, _, _ => Nat.zero_le _
  | a :: S, T, h, hs => by
    obtain ⟨h1, h2⟩ := List.nodup_cons.1 h
    have ha : a ∈ T := hs a (by simp)
    have := nodup_len S (T.erase a) h2 (fun r hr => (List.mem_erase_of_ne (show r ≠ a from fun e => h1 (e ▸ hr))).2 (hs r (by simp [hr])))
    rw [List.length_erase_of_mem ha] at this
    have := List.length_pos_of_mem ha
    simp only [List.length_cons]
    omega
theorem Fit.len {n : Nat} {S : List Nat} (h : Fit n S) : S.length ≤ n := by
  have : S.length ≤ (List.range n).length := nodup_len S _ h.nd (fun r hr => List.mem_range.2 (h.lt r hr))
  simpa using this
theorem Fit.less {n : Nat} {S : List Nat} (h : Fit n S) {r : Nat} (hr : r < n) (hn : r ∉ S) : S.length < n := by
  have := (h.add hr hn).fit.len
  simp at this
  omega

/-- Values that are met are of the graph. -/
def Good (n : Nat) (L : Nat → Nat) (X : Nat → Nat → V) : Prop := ∀ r, r < n → ∀ c, c < L r → isV n (X r c) = true
theorem good_of {n : Nat} {u : V} {L : Nat → Nat} {K X : Nat → Nat → V} (h : OkG n u L K X) : Good n L X := fun r hr c hc => ((h.all r hr).all c hc).val

/-- All of T that is not of S has been gone into. -/
def Closed (L : Nat → Nat) (X : Nat → Nat → V) (S T : List Nat) : Prop := ∀ r ∈ T, r ∉ S → ∀ c, c < L r → (X r c).k = 4 → (X r c).a.toNat ∈ T

theorem met_all {n : Nat} {L : Nat → Nat} {X : Nat → Nat → V} (hg : Good n L X) : ∀ (f : Nat) (S : List Nat) (v : V), Fit n S → isV n v = true → n - S.length < f →
    Grows n S (met L X f S v) ∧ Closed L X S (met L X f S v) ∧ (v.k = 4 → v.a.toNat ∈ met L X f S v) := by
  intro f
  induction f with
  | zero => intro S v _ _ h; omega
  | succ f ih =>
    intro S v hS hv hf
    by_cases h : v.k = 4 ∧ v.a.toNat ∉ S
    · obtain ⟨h4, hn⟩ := h
      rw [met_new h4 hn]
      obtain ⟨a0, a1⟩ := isV_tab hv h4
      have hr : v.a.toNat < n := by omega
      generalize v.a.toNat = r at *
      have hl := hS.less hr hn
      have h1 := hS.add hr hn
      have loop : ∀ c, c ≤ L r → Grows n (S ++ [r]) (mets L X f (S ++ [r]) (X r) c) ∧ Closed L X (S ++ [r]) (mets L X f (S ++ [r]) (X r) c) ∧ ∀ j, j < c → (X r j).k = 4 → (X r j).a.toNat ∈ mets L X f (S ++ [r]) (X r) c := by
        intro c
        induction c with
        | zero => intro _; exact ⟨h1.fit.refl, fun q hq hq' => absurd hq hq', fun j hj => by omega⟩
        | succ c ihc =>
          intro hc
          obtain ⟨g1, g2, g3⟩ := ihc (by omega)
          rw [mets_succ]
          have hlen := g1.len
          simp only [List.length_append, List.length_cons, List.length_nil] at hlen
          obtain ⟨k1, k2, k3⟩ := ih (mets L X f (S ++ [r]) (X r) c) (X r c) g1.fit (hg r hr c (by omega)) (by omega)
          refine ⟨g1.trans k1, fun q hq hq' i hi h4 => ?_, fun j hj h4 => ?_⟩
          · by_cases hm : q ∈ mets L X f (S ++ [r]) (X r) c
            · exact k1.mem (g2 q hm hq' i hi h4)
            · exact k2 q hq hm i hi h4
          · by_cases e : j = c
            · subst e; exact k3 h4
            · exact k1.mem (g3 j (by omega) h4)
      obtain ⟨g1, g2, g3⟩ := loop (L r) (Nat.le_refl _)
      refine ⟨h1.trans g1, fun q hq hq' i hi h4' => ?_, fun _ => g1.mem (by simp)⟩
      by_cases e : q = r
      · subst e; exact g3 i hi h4'
      · exact g2 q hq (by simp [hq', e]) i hi h4'
    · have : v.k ≠ 4 ∨ v.a.toNat ∈ S := by
        by_cases h4 : v.k = 4
        · exact Or.inr (Classical.byContradiction fun hn => h ⟨h4, hn⟩)
        · exact Or.inl h4
      rw [met_old this]
      refine ⟨hS.refl, fun q hq hq' => absurd hq hq', fun h4 => ?_⟩
      rcases this with h' | h'
      · exact absurd h4 h'
      · exact h'

/-- A value with its table's new number. -/
def renum (S : List Nat) (v : V) : V := if v.k = 4 then ⟨v.k, v.n, v.s, S.idxOf v.a.toNat⟩ else v

/-- Where a table is, -1 when it has not been met. -/
def whereIs (S : List Nat) (i : Nat) : Int := if i ∈ S then (S.idxOf i : Nat) else -1
theorem whereIs_in {S : List Nat} {i : Nat} (h : i ∈ S) : whereIs S i = (S.idxOf i : Nat) := by unfold whereIs; rw [if_pos h]
theorem whereIs_out {S : List Nat} {i : Nat} (h : i ∉ S) : whereIs S i = -1 := by unfold whereIs; rw [if_neg h]
theorem whereIs_add {S : List Nat} {r : Nat} (h : r ∉ S) (i : Nat) : whereIs (S ++ [r]) i = if i = r then (S.length : Int) else whereIs S i := by
  unfold whereIs
  by_cases e : i = r
  · subst e
    rw [if_pos (by simp), if_pos rfl, List.idxOf_append, if_neg h]
    simp
  · rw [if_neg e]
    by_cases hi : i ∈ S
    · rw [if_pos (by simp [hi]), if_pos hi, List.idxOf_append, if_pos hi]
    · rw [if_neg (by simp [hi, e]), if_neg hi]

/-- The tables of the canonical graph. -/
def order (n : Nat) (u : V) (L : Nat → Nat) (X : Nat → Nat → V) : List Nat := met L X (n + 1) [] u
theorem order_all {n : Nat} {u : V} {L : Nat → Nat} {K X : Nat → Nat → V} (h : OkG n u L K X) : Fit n (order n u L X) ∧ (∀ r ∈ order n u L X, ∀ c, c < L r → (X r c).k = 4 → (X r c).a.toNat ∈ order n u L X) ∧ (u.k = 4 → u.a.toNat ∈ order n u L X) := by
  obtain ⟨a, b, c⟩ := met_all (good_of h) (n + 1) [] u (Fit.nil n) h.root (by simp)
  exact ⟨a.fit, fun r hr => b r hr (by simp), c⟩

end Go.Proofs.Ytgflalfiopnmnaa

/-
  Tables that are the same: the widest relation, and the least number of each. No Go in sight.
-/
namespace Go.Proofs.Ytgflalfiopnmnaa
open Vl

theorem eqV_iff {a b : V} : eqV a b = true ↔ a = b := by
  obtain ⟨k, n, s, t⟩ := a
  obtain ⟨k', n', s', t'⟩ := b
  simp only [eqV, Bool.and_eq_true, beq_iff_eq, V.mk.injEq]
  constructor
  · rintro ⟨h1, h2, h3, h4⟩
    refine ⟨h1, h2, ?_, h4⟩
    rw [ByteArray.toList_eq, ByteArray.toList_eq] at h3
    obtain ⟨⟨l⟩⟩ := s
    obtain ⟨⟨l'⟩⟩ := s'
    simp at h3
    subst h3
    rfl
  · rintro ⟨h1, h2, h3, h4⟩
    exact ⟨h1, h2, by rw [h3], h4⟩

/-- Two values look alike when tables of one class do. -/
def alike (cl : Nat → Nat) (a b : V) : Bool := a.k == b.k && (if a.k = 4 then cl a.a.toNat == cl b.a.toNat else eqV a b)
theorem alike_iff {cl : Nat → Nat} {a b : V} : alike cl a b = true ↔ a.k = b.k ∧ (a.k = 4 → cl a.a.toNat = cl b.a.toNat) ∧ (a.k ≠ 4 → a = b) := by
  unfold alike
  by_cases h : a.k = 4
  · simp [h]
  · simp [h, eqV_iff]
theorem alike_refl (cl : Nat → Nat) (a : V) : alike cl a a = true := alike_iff.2 ⟨rfl, fun _ => rfl, fun _ => rfl⟩
theorem alike_symm {cl : Nat → Nat} {a b : V} (h : alike cl a b = true) : alike cl b a = true := by
  rw [alike_iff] at h ⊢
  exact ⟨h.1.symm, fun e => (h.2.1 (by omega)).symm, fun e => (h.2.2 (by omega)).symm⟩
theorem alike_trans {cl : Nat → Nat} {a b c : V} (h : alike cl a b = true) (k : alike cl b c = true) : alike cl a c = true := by
  rw [alike_iff] at h k ⊢
  exact ⟨h.1.trans k.1, fun e => (h.2.1 e).trans (k.2.1 (by omega)), fun e => (h.2.2 e).trans (k.2.2 (by omega))⟩

/-- Two tables look alike. -/
structure Looks (L : Nat → Nat) (K X : Nat → Nat → V) (cl : Nat → Nat) (i j : Nat) : Prop where
  len : L i = L j
  all : ∀ c, c < L i → K i c = K j c ∧ alike cl (X i c) (X j c) = true
theorem Looks.refl (L : Nat → Nat) (K X : Nat → Nat → V) (cl : Nat → Nat) (i : Nat) : Looks L K X cl i i := ⟨rfl, fun _ _ => ⟨rfl, alike_refl _ _⟩⟩
theorem Looks.symm {L : Nat → Nat} {K X : Nat → Nat → V} {cl : Nat → Nat} {i j : Nat} (h : Looks L K X cl i j) : Looks L K X cl j i := ⟨h.len.symm, fun c hc => by
  have := h.all c (by rw [h.len]; exact hc)
  exact ⟨this.1.symm, alike_symm this.2⟩⟩
theorem Looks.trans {L : Nat → Nat} {K X : Nat → Nat → V} {cl : Nat → Nat} {i j k : Nat} (h : Looks L K X cl i j) (g : Looks L K X cl j k) : Looks L K X cl i k := ⟨h.len.trans g.len, fun c hc => by
  have h1 := h.all c hc
  have h2 := g.all c (by rw [← h.len]; exact hc)
  exact ⟨h1.1.trans h2.1, alike_trans h1.2 h2.2⟩⟩
theorem Looks.congr {L : Nat → Nat} {K X : Nat → Nat → V} {cl cl' : Nat → Nat} {n i j : Nat} (hg : Good n L X) (hi : i < n) (hj : j < n) (he : ∀ r, r < n → cl r = cl' r) (h : Looks L K X cl i j) : Looks L K X cl' i j := ⟨h.len, fun c hc => by
  obtain ⟨h1, h2⟩ := h.all c hc
  refine ⟨h1, ?_⟩
  rw [alike_iff] at h2 ⊢
  refine ⟨h2.1, fun e => ?_, h2.2.2⟩
  have a1 := isV_tab (hg i hi c hc) e
  have a2 := isV_tab (hg j hj c (by rw [← h.len]; exact hc)) (by omega)
  rw [← he _ (by omega), ← he _ (by omega)]
  exact h2.2.1 e⟩

/-- A relation that goes with what tables hold. -/
def Bis (n : Nat) (L : Nat → Nat) (K X : Nat → Nat → V) (R : Nat → Nat → Prop) : Prop := ∀ i j, R i j → i < n ∧ j < n ∧ L i = L j ∧ ∀ c, c < L i → K i c = K j c ∧ (X i c).k = (X j c).k ∧ ((X i c).k = 4 → R (X i c).a.toNat (X j c).a.toNat) ∧ ((X i c).k ≠ 4 → X i c = X j c)

/-- Classes that no relation is wider than, each told by its least table. -/
structure IsCls (n : Nat) (L : Nat → Nat) (K X : Nat → Nat → V) (f : Nat → Nat) : Prop where
  low : ∀ i, i < n → f i ≤ i
  idem : ∀ i, i < n → f (f i) = f i
  bis : ∀ i j, i < n → j < n → f i = f j → Looks L K X f i j
  wide : ∀ R, Bis n L K X R → ∀ i j, R i j → f i = f j

theorem IsCls.rel {n : Nat} {L : Nat → Nat} {K X : Nat → Nat → V} {f : Nat → Nat} (hg : Good n L X) (h : IsCls n L K X f) : Bis n L K X (fun i j => i < n ∧ j < n ∧ f i = f j) := by
  rintro i j ⟨hi, hj, e⟩
  have hl := h.bis i j hi hj e
  refine ⟨hi, hj, hl.len, fun c hc => ?_⟩
  obtain ⟨h1, h2⟩ := hl.all c hc
  rw [alike_iff] at h2
  refine ⟨h1, h2.1, fun e4 => ?_, h2.2.2⟩
  have a1 := isV_tab (hg i hi c hc) e4
  have a2 := isV_tab (hg j hj c (by rw [← hl.len]; exact hc)) (by omega)
  exact ⟨by omega, by omega, h2.2.1 e4⟩

theorem IsCls.le {n : Nat} {L : Nat → Nat} {K X : Nat → Nat → V} {f g : Nat → Nat} (hg : Good n L X) (hf : IsCls n L K X f) (h : IsCls n L K X g) {i : Nat} (hi : i < n) : g i ≤ f i := by
  have h1 := hf.low i hi
  have h2 : g (f i) = g i := h.wide _ (hf.rel hg) (f i) i ⟨by omega, hi, hf.idem i hi⟩
  have h3 := h.low (f i) (by omega)
  omega
theorem IsCls.uniq {n : Nat} {L : Nat → Nat} {K X : Nat → Nat → V} {f g : Nat → Nat} (hg : Good n L X) (hf : IsCls n L K X f) (h : IsCls n L K X g) {i : Nat} (hi : i < n) : f i = g i :=
  Nat.le_antisymm (h.le hg hf hi) (hf.le hg h hi)

/-- What holds of classes on the way. -/
structure OnWay (n : Nat) (L : Nat → Nat) (K X : Nat → Nat → V) (cl : Nat → Nat) : Prop where
  low : ∀ i, i < n → cl i ≤ i
  idem : ∀ i, i < n → cl (cl i) = cl i
  wide : ∀ R, Bis n L K X R → ∀ i j, R i j → cl i = cl j

theorem OnWay.congr {n : Nat} {L : Nat → Nat} {K X : Nat → Nat → V} {cl cl' : Nat → Nat} (h : OnWay n L K X cl) (he : ∀ i, i < n → cl i = cl' i) : OnWay n L K X cl' :=
  ⟨fun i hi => by rw [← he i hi]; exact h.low i hi, fun i hi => by have := h.low i hi; rw [← he i hi, ← he _ (by omega)]; exact h.idem i hi,
   fun R hR i j hr => by obtain ⟨h1, h2, _⟩ := hR i j hr; rw [← he i h1, ← he j h2]; exact h.wide R hR i j hr⟩
theorem IsCls.congr {n : Nat} {L : Nat → Nat} {K X : Nat → Nat → V} {cl cl' : Nat → Nat} (hg : Good n L X) (h : IsCls n L K X cl) (he : ∀ i, i < n → cl i = cl' i) : IsCls n L K X cl' := by
  have o := OnWay.congr ⟨h.low, h.idem, h.wide⟩ he
  exact ⟨o.low, o.idem, fun i j hi hj e => (h.bis i j hi hj (by rw [he i hi, he j hj]; exact e)).congr hg hi hj he, o.wide⟩

/-- One round: the least that was alike and looks alike. -/
structure Round (n : Nat) (L : Nat → Nat) (K X : Nat → Nat → V) (cl nx : Nat → Nat) : Prop where
  low : ∀ i, i < n → nx i ≤ i
  hit : ∀ i, i < n → cl (nx i) = cl i ∧ Looks L K X cl (nx i) i
  least : ∀ i, i < n → ∀ k, k < nx i → ¬ (cl k = cl i ∧ Looks L K X cl k i)

theorem Round.eq {n : Nat} {L : Nat → Nat} {K X : Nat → Nat → V} {cl nx : Nat → Nat} (h : Round n L K X cl nx) {i j : Nat} (hi : i < n) (hj : j < n) : nx i = nx j ↔ cl i = cl j ∧ Looks L K X cl i j := by
  obtain ⟨a1, a2⟩ := h.hit i hi
  obtain ⟨b1, b2⟩ := h.hit j hj
  constructor
  · intro e
    rw [e] at a1 a2
    exact ⟨a1.symm.trans b1, a2.symm.trans b2⟩
  · rintro ⟨e, hl⟩
    rcases Nat.lt_trichotomy (nx i) (nx j) with h' | h' | h'
    · exact absurd ⟨a1.trans e, a2.trans hl⟩ (h.least j hj _ h')
    · exact h'
    · exact absurd ⟨b1.trans e.symm, b2.trans hl.symm⟩ (h.least i hi _ h')
theorem Round.idem {n : Nat} {L : Nat → Nat} {K X : Nat → Nat → V} {cl nx : Nat → Nat} (h : Round n L K X cl nx) {i : Nat} (hi : i < n) : nx (nx i) = nx i := by
  have := h.low i hi
  exact (h.eq (by omega) hi).2 (h.hit i hi)

theorem Round.next {n : Nat} {L : Nat → Nat} {K X : Nat → Nat → V} {cl nx : Nat → Nat} (h : Round n L K X cl nx) (ho : OnWay n L K X cl) : OnWay n L K X nx := by
  refine ⟨h.low, fun i hi => h.idem hi, fun R hR i j hr => ?_⟩
  obtain ⟨h1, h2, h3, h4⟩ := hR i j hr
  refine (h.eq h1 h2).2 ⟨ho.wide R hR i j hr, h3, fun c hc => ?_⟩
  obtain ⟨k1, k2, k3, k4⟩ := h4 c hc
  exact ⟨k1, alike_iff.2 ⟨k2, fun e => ho.wide R hR _ _ (k3 e), k4⟩⟩

/-- Nothing has turned: these are the classes. -/
theorem Round.done {n : Nat} {L : Nat → Nat} {K X : Nat → Nat → V} {cl nx : Nat → Nat} (h : Round n L K X cl nx) (ho : OnWay n L K X cl) (he : ∀ i, i < n → nx i = cl i) : IsCls n L K X cl :=
  ⟨ho.low, ho.idem, fun i j hi hj e => ((h.eq hi hj).1 (by rw [he i hi, he j hj]; exact e)).2, ho.wide⟩

/-- How many tables tell a class. -/
def reps (n : Nat) (cl : Nat → Nat) : Nat := ((List.range n).filter fun i => cl i == i).length
theorem reps_le (n : Nat) (cl : Nat → Nat) : reps n cl ≤ n := by
  have := List.length_filter_le (fun i => cl i == i) (List.range n)
  simpa [reps] using this
theorem reps_mono (cl nx : Nat → Nat) : ∀ n, (∀ i, i < n → cl i = i → nx i = i) → reps n cl ≤ reps n nx ∧ ∀ i, i < n → cl i ≠ i → nx i = i → reps n cl < reps n nx
  | 0, _ => ⟨Nat.le_refl _, fun i hi => by omega⟩
  | n + 1, h => by
    obtain ⟨h1, h2⟩ := reps_mono cl nx n (fun i hi => h i (by omega))
    have e : ∀ f : Nat → Nat, reps (n + 1) f = reps n f + if f n = n then 1 else 0 := fun f => by
      unfold reps
      rw [List.range_succ, List.filter_append, List.length_append]
      by_cases hf : f n = n <;> simp [hf]
    rw [e, e]
    have hn := h n (by omega)
    refine ⟨?_, fun i hi k1 k2 => ?_⟩
    · by_cases hc : cl n = n
      · rw [if_pos hc, if_pos (hn hc)]; omega
      · rw [if_neg hc]; omega
    · by_cases ei : i = n
      · subst ei
        rw [if_neg k1, if_pos k2]
        omega
      · have := h2 i (by omega) k1 k2
        by_cases hc : cl n = n
        · rw [if_pos hc, if_pos (hn hc)]; omega
        · rw [if_neg hc]; omega

theorem Round.more {n : Nat} {L : Nat → Nat} {K X : Nat → Nat → V} {cl nx : Nat → Nat} (h : Round n L K X cl nx) (ho : OnWay n L K X cl) {i : Nat} (hi : i < n) (hne : nx i ≠ cl i) : reps n cl < reps n nx := by
  have keep : ∀ i, i < n → cl i = i → nx i = i := fun i hi e => by
    have h1 := h.low i hi
    have h2 := (h.hit i hi).1
    have h3 := ho.low (nx i) (by omega)
    omega
  have h1 := h.low i hi
  refine (reps_mono cl nx n keep).2 (nx i) (by omega) (fun e => hne ?_) (h.idem hi)
  have := (h.hit i hi).1
  omega

end Go.Proofs.Ytgflalfiopnmnaa

namespace Go.Proofs.Ytgflalfiopnmnaa
open Go.RowKit Vl

/-- A slice of values. -/
structure ValsAt (w : World) (pa : Option Addr) (L B O : Nat) (P : Nat → V) : Prop where
  top : 0 < L → pa = some ⟨B, O, none⟩
  val : ∀ c, c < L → VAt w B (O + c * 4) (P c)
theorem ValsAt.below {w w' : World} {pa : Option Addr} {L B O : Nat} {P : Nat → V} (h : ValsAt w pa L B O P) (hb : Below w.heap.size w w') : ValsAt w' pa L B O P :=
  ⟨h.top, fun c hc => (h.val c hc).below hb⟩
theorem ValsAt.cells {w : World} {pa : Option Addr} {L B O : Nat} {P : Nat → V} (h : ValsAt w pa L B O P) {c : Nat} (hc : c < L) :
    w.cell? ⟨B, O + c * 4, none⟩ = some (.int .i64 (P c).k) ∧ w.cell? ⟨B, O + c * 4 + 1, none⟩ = some (.int .i64 (P c).n) ∧ w.cell? ⟨B, O + c * 4 + 2, none⟩ = some (.string (P c).s) ∧ w.cell? ⟨B, O + c * 4 + 3, none⟩ = some (.int .i64 (P c).a) := h.val c hc

theorem cells4 {w : World} {B : Nat} {a b c d : Value} {t : TypeId} (h : w.heap[B]? = some (.cells #[a, b, c, d] t (0, 0))) :
    w.cell? ⟨B, 0, none⟩ = some a ∧ w.cell? ⟨B, 1, none⟩ = some b ∧ w.cell? ⟨B, 2, none⟩ = some c ∧ w.cell? ⟨B, 3, none⟩ = some d ∧ ∀ i, w.frozen? ⟨B, i, none⟩ = false := by
  refine ⟨?_, ?_, ?_, ?_, fun i => ?_⟩ <;> simp [World.cell?, World.frozen?, h]
theorem put4r {w : World} {B : Nat} {a b c d : Value} {t : TypeId} (h : w.heap[B]? = some (.cells #[a, b, c, d] t (0, 0))) (a' b' c' d' : Value) :
    ((((w.setCell ⟨B, 0, none⟩ a').setCell ⟨B, 1, none⟩ b').setCell ⟨B, 2, none⟩ c').setCell ⟨B, 3, none⟩ d').heap[B]? = some (.cells #[a', b', c', d'] t (0, 0)) := by
  simp [World.setCell, Array.getElem?_modify, h]
theorem blkB {w w' : World} {b : Nat} {o : Obj} (h : w.heap[b]? = some o) (hb : Below w.heap.size w w') : w'.heap[b]? = some o := (hb.block b (blk_lt h)).trans h

/-- A block that holds a value. -/
def ValB (w : World) (B : Nat) (v : V) : Prop := w.heap[B]? = some (.cells #[.int .i64 v.k, .int .i64 v.n, .string v.s, .int .i64 v.a] 24 (0, 0))
theorem ValB.put {w : World} {B : Nat} {v : V} (h : ValB w B v) (x : V) : ValB ((((w.setCell ⟨B, 0, none⟩ (.int .i64 x.k)).setCell ⟨B, 1, none⟩ (.int .i64 x.n)).setCell ⟨B, 2, none⟩ (.string x.s)).setCell ⟨B, 3, none⟩ (.int .i64 x.a)) B x := put4r h _ _ _ _
theorem ValB.below {w w' : World} {B : Nat} {v : V} (h : ValB w B v) (hb : Below w.heap.size w w') : ValB w' B v := blkB h hb

structure SpB (w0 : World) (WB WH base : Nat) : Prop where
  wb : w0.heap.size ≤ WB
  wh : w0.heap.size ≤ WH
  ne : WB ≠ WH
  wbb : WB < base
  whb : WH < base

theorem owns_form {w : World} {base t s n : Nat} {v : Value} {xs : List Value} (h : w.ownsRow base t s v n xs) : ∃ oa oc, v = .slice oa n oc ∧ (∀ k, v.ownBlock = some k → base ≤ k ∧ k < w.heap.size) := by
  rcases h.2 with ⟨rfl, hn⟩ | ⟨g, cap, cur, rfl, hgb, hh, _⟩
  · obtain ⟨rfl, _⟩ := hn
    exact ⟨none, 0, rfl, fun k hk => by simp [Value.ownBlock] at hk⟩
  · exact ⟨_, _, rfl, fun k hk => by simp [Value.ownBlock] at hk; subst hk; exact ⟨hgb, blk_lt hh⟩⟩

/-- What the numberer turns: its own block, its marks, its row. -/
structure FrV (WB WH : Nat) (ord ord' : Value) (w w' : World) : Prop where
  only : Only (fun k => k = WB ∨ k = WH ∨ ord.ownBlock = some k) w w'
  nxt : ∀ k, k < w.heap.size → ord'.ownBlock = some k → ord.ownBlock = some k
theorem FrV.refl (WB WH : Nat) (ord : Value) (w : World) : FrV WB WH ord ord w w := ⟨Only.refl _ _, fun _ _ h => h⟩
theorem FrV.trans {WB WH : Nat} {o1 o2 o3 : Value} {a b c : World} (h : FrV WB WH o1 o2 a b) (k : FrV WB WH o2 o3 b c) : FrV WB WH o1 o3 a c :=
  ⟨⟨k.only.os.trans h.only.os, k.only.tape.trans h.only.tape, k.only.output.trans h.only.output, Nat.le_trans h.only.size k.only.size, fun i hi hp => by
      rw [k.only.block i (Nat.lt_of_lt_of_le hi h.only.size) (fun x => hp (by
        rcases x with x | x | x
        · exact Or.inl x
        · exact Or.inr (Or.inl x)
        · exact Or.inr (Or.inr (h.nxt i hi x)))), h.only.block i hi hp]⟩,
    fun i hi x => h.nxt i hi (k.nxt i (Nat.lt_of_lt_of_le hi h.only.size) x)⟩
theorem FrV.below {WB WH : Nat} {o1 o2 : Value} {a b c : World} (h : FrV WB WH o1 o2 a b) (k : Below b.heap.size b c) : FrV WB WH o1 o2 a c := h.trans ⟨Only.below k, fun _ _ h => h⟩
theorem FrV.first {WB WH : Nat} {o : Value} {a b : World} (k : Below a.heap.size a b) : FrV WB WH o o a b := ⟨Only.below k, fun _ _ h => h⟩
/-- A block that is none of the numberer's stays. -/
theorem FrV.blk {WB WH : Nat} {o1 o2 : Value} {a b : World} (h : FrV WB WH o1 o2 a b) {k : Nat} {o : Obj} (hk : a.heap[k]? = some o) (h1 : k ≠ WB) (h2 : k ≠ WH) (h3 : o1.ownBlock ≠ some k) : b.heap[k]? = some o := by
  rw [h.only.block k (blk_lt hk) (fun x => by rcases x with x | x | x; exact h1 x; exact h2 x; exact h3 x)]
  exact hk

theorem Only.ownsB {P : Nat → Prop} {a b : World} (h : Only P a b) {base t s n : Nat} {v : Value} {xs : List Value} (ho : a.ownsRow base t s v n xs) (hB : ∀ g, v.ownBlock = some g → ¬ P g) : b.ownsRow base t s v n xs := by
  refine ⟨ho.1, ?_⟩
  rcases ho.2 with h2 | ⟨g, cap, cur, hv, hg, hh, r⟩
  · exact Or.inl h2
  · exact Or.inr ⟨g, cap, cur, hv, hg, by rw [h.block g (lt_of_block hh) (hB g (by rw [hv]; rfl))]; exact hh, r⟩

theorem FrV.new {WB WH : Nat} {o1 o2 : Value} {a b c : World} (h : FrV WB WH o1 o2 a b) (k : Below a.heap.size b c) : FrV WB WH o1 o2 a c := ⟨h.only.thenBelow k (Nat.le_refl _), h.nxt⟩

/-- A cell of a row that is owned. -/
theorem owns_cell {w : World} {base t s n : Nat} {v : Value} {xs : List Value} (h : w.ownsRow base t s v n xs) {k : Nat} {y : Value} (hk : xs[k]? = some y) : ∃ g cap, v = .slice (some ⟨g, 0, none⟩) n cap ∧ w.cell? ⟨g, k, none⟩ = some y := by
  rcases h.2 with ⟨rfl, rfl⟩ | ⟨g, cap, cur, rfl, _, hh, _, _, _, ht⟩
  · have := h.1
    simp at this
    subst this
    cases hk
  · refine ⟨g, cap, rfl, ?_⟩
    rw [← ht, List.getElem?_take] at hk
    split at hk
    · simp [World.cell?, hh]
      simpa using hk
    · cases hk

def slA : Value → Option Addr
  | .slice a _ _ => a
  | _ => none
def slC : Value → Nat
  | .slice _ _ c => c
  | _ => 0
def slB (v : Value) : Nat := match slA v with
  | some a => a.block
  | none => 0

theorem owns_type {w : World} {base t s n : Nat} {v : Value} {xs : List Value} (h : w.ownsRow base t s v n xs) {g : Nat} (hg : v.ownBlock = some g) : base ≤ g ∧ ∃ cur, w.heap[g]? = some (.cells cur t (0, 0)) := by
  rcases h.2 with ⟨rfl, _⟩ | ⟨g', cap, cur, rfl, hge, hh, _⟩
  · simp [Value.ownBlock] at hg
  · simp [Value.ownBlock] at hg
    subst hg
    exact ⟨hge, cur, hh⟩

theorem owns_mono {w : World} {base base' t s n : Nat} {v : Value} {xs : List Value} (h : w.ownsRow base t s v n xs) (hb : base' ≤ base) : w.ownsRow base' t s v n xs := by
  refine ⟨h.1, ?_⟩
  rcases h.2 with h2 | ⟨g, cap, cur, hv, hge, r⟩
  · exact Or.inl h2
  · exact Or.inr ⟨g, cap, cur, hv, by omega, r⟩

end Go.Proofs.Ytgflalfiopnmnaa

namespace Go.Proofs.Ytgflalfiopnmnaa
open Go.RowKit Vl

/-- What is there at a key, by a comparison. -/
def findG {α : Type} (eqb : α → α → Bool) (v : α) : List (α × Value) → Option Value
  | [] => none
  | (k, x) :: l => if eqb v k = true then some x else findG eqb v l

/-- What the keys of a map type are. -/
structure Keyed {α : Type} (mt kt et : TypeId) (enc : α → Value) (ok : World → α → Prop) (eqb : α → α → Bool) (z : Value) : Prop where
  und : Try.prog.underlying mt = some (.map kt et)
  eq : ∀ u v w, ok w u → ok w v → (Op.equal kt (enc u) (enc v)).run Try.prog w = .ok (eqb u v) w
  chk : ∀ em v w, (Instr.checkKey em 10000 kt (enc v)).run Try.prog w = .ok () w
  now : ∃ d, Try.prog.underlying kt = some d ∧ ∀ u v, Instr.sameNow d (enc u) (enc v) = none
  zero : ∀ w, (zeroValue et).run Try.prog w = .ok z w

theorem find_g {α : Type} {mt kt et : TypeId} {enc : α → Value} {ok : World → α → Prop} {eqb : α → α → Bool} {z : Value} (hK : Keyed mt kt et enc ok eqb z) (v : α) (w : World) (hv : ok w v) : ∀ (es : List MapEntry) (l : List (α × Value)) (i : Nat), (∀ p ∈ l, ok w p.1) → es.map (fun e => (e.key, e.val)) = l.map (fun p => (enc p.1, p.2)) →
    (findG eqb v l = none → (Instr.findAsking kt (enc v) es i).run Try.prog w = .ok none w) ∧ (∀ x, findG eqb v l = some x → ∃ j, (Instr.findAsking kt (enc v) es i).run Try.prog w = .ok (some (j, x)) w)
  | [], [], i, _, _ => ⟨fun _ => rfl, fun x h => by cases h⟩
  | [], _ :: _, i, _, h => by simp at h
  | _ :: _, [], i, _, h => by simp at h
  | e :: es, (k, x) :: l, i, hl, h => by
    simp only [List.map_cons, List.cons.injEq, Prod.mk.injEq] at h
    obtain ⟨⟨h1, h2⟩, h3⟩ := h
    have ih := find_g hK v w hv es l (i + 1) (fun p hp => hl p (List.mem_cons_of_mem _ hp)) h3
    have e1 : (Instr.findAsking kt (enc v) (e :: es) i).run Try.prog w = if eqb v k = true then .ok (some (i, e.val)) w else (Instr.findAsking kt (enc v) es (i + 1)).run Try.prog w := by
      conv => lhs; unfold Instr.findAsking
      rw [Sem.run_bind, h1, hK.eq _ _ _ hv (hl (k, x) (by simp))]
      simp only [Result.andThen_ok]
      cases eqb v k <;> simp
    rw [e1]
    unfold findG
    by_cases he : eqb v k = true
    · rw [if_pos he, if_pos he, h2]
      exact ⟨fun h => (by cases h), fun y h => ⟨i, by cases h; rfl⟩⟩
    · rw [if_neg he, if_neg he]
      exact ih

theorem findKey_g {α : Type} {mt kt et : TypeId} {enc : α → Value} {ok : World → α → Prop} {eqb : α → α → Bool} {z : Value} (hK : Keyed mt kt et enc ok eqb z) (v : α) (w : World) (hv : ok w v) (es : List MapEntry) (l : List (α × Value)) (hl : ∀ p ∈ l, ok w p.1) (h : es.map (fun e => (e.key, e.val)) = l.map (fun p => (enc p.1, p.2))) :
    (findG eqb v l = none → (Instr.findKey kt (enc v) es).run Try.prog w = .ok none w) ∧ (∀ x, findG eqb v l = some x → ∃ j, (Instr.findKey kt (enc v) es).run Try.prog w = .ok (some (j, x)) w) := by
  have hf := find_g hK v w hv es l 0 hl h
  obtain ⟨d, hd, hn⟩ := hK.now
  have e1 : (Instr.findKey kt (enc v) es).run Try.prog w = (Instr.findAsking kt (enc v) es 0).run Try.prog w := by
    unfold Instr.findKey
    rw [Sem.run_bind, run_underlying hd]
    simp only [Result.andThen_ok]
    cases es with
    | nil => rfl
    | cons e es =>
      cases l with
      | nil => simp at h
      | cons p l =>
        simp only [List.map_cons, List.cons.injEq, Prod.mk.injEq] at h
        have : Instr.findNow d (enc v) (e :: es) 0 = none := by
          unfold Instr.findNow
          rw [h.1.1, hn]
        rw [this]
  rw [e1]
  exact hf

/-- A block that is a map. -/
def MapG {α : Type} (enc : α → Value) (w : World) (M : Nat) (l : List (α × Value)) : Prop := ∃ es clk, w.heap[M]? = some (.map es clk) ∧ es.toList.map (fun e => (e.key, e.val)) = l.map (fun p => (enc p.1, p.2))

theorem MapG.same {α : Type} {enc : α → Value} {w w' : World} {M : Nat} {l : List (α × Value)} (h : MapG enc w M l) (e : w'.heap[M]? = w.heap[M]?) : MapG enc w' M l := by
  obtain ⟨es, clk, h1, h2⟩ := h
  exact ⟨es, clk, e.trans h1, h2⟩
theorem MapG.lt {α : Type} {enc : α → Value} {w : World} {M : Nat} {l : List (α × Value)} (h : MapG enc w M l) : M < w.heap.size := by
  obtain ⟨es, clk, h1, _⟩ := h
  exact blk_lt h1
theorem MapG.len {α : Type} {enc : α → Value} {w : World} {M : Nat} {l : List (α × Value)} (h : MapG enc w M l) : ∃ es clk, w.heap[M]? = some (.map es clk) ∧ es.size = l.length := by
  obtain ⟨es, clk, h1, h2⟩ := h
  refine ⟨es, clk, h1, ?_⟩
  have := congrArg List.length h2
  simpa using this

theorem MapG.lookup {α : Type} {mt kt et : TypeId} {enc : α → Value} {ok : World → α → Prop} {eqb : α → α → Bool} {z : Value} (hK : Keyed mt kt et enc ok eqb z) {w : World} {M : Nat} {l : List (α × Value)} (h : MapG enc w M l) (v : α) (hv : ok w v) (hok : ∀ p ∈ l, ok w p.1) :
    (Instr.lookup mt (.map (some M)) (enc v) true).run Try.prog w = .ok (.tuple #[(findG eqb v l).getD z, .bool (findG eqb v l).isSome]) w ∧
    (Instr.lookup mt (.map (some M)) (enc v) false).run Try.prog w = .ok ((findG eqb v l).getD z) w := by
  obtain ⟨es, clk, hb, hl⟩ := h
  have hk := findKey_g hK v w hv es.toList l hok hl
  cases hf : findG eqb v l with
  | none =>
    have h1 := hk.1 hf
    constructor <;> simp [Instr.lookup, run_underlying hK.und, MapKept.run_getObj_map hb, hK.chk, h1, hK.zero, Result.andThen]
  | some x =>
    obtain ⟨j, h1⟩ := hk.2 x hf
    constructor <;> simp [Instr.lookup, run_underlying hK.und, MapKept.run_getObj_map hb, hK.chk, h1, Result.andThen]

theorem MapG.update {α : Type} {mt kt et : TypeId} {enc : α → Value} {ok : World → α → Prop} {eqb : α → α → Bool} {z : Value} (hK : Keyed mt kt et enc ok eqb z) {w : World} {M : Nat} {l : List (α × Value)} (h : MapG enc w M l) (v : α) (x : Value) (hv : ok w v) (hok : ∀ p ∈ l, ok w p.1) (hf : findG eqb v l = none) :
    ∃ w', (Instr.mapUpdate mt (.map (some M)) (enc v) x).run Try.prog w = .ok () w' ∧ MapG enc w' M (l ++ [(v, x)]) ∧ Only (fun k => k = M) w w' ∧ w'.heap.size = w.heap.size := by
  obtain ⟨es, clk, hb, hl⟩ := h
  have hk := (findKey_g hK v w hv es.toList l hok hl).1 hf
  refine ⟨{ w with heap := w.heap.setIfInBounds M (.map (es.push { key := enc v, val := x, born := clk }) (clk + 1)) }, ?_, ?_, ?_, by simp⟩
  · simp [Instr.mapUpdate, run_underlying hK.und, MapKept.run_getObj_map hb, hK.chk, hk, Result.andThen, MapKept.run_setObj_map _ hb]
  · refine ⟨_, _, by rw [Array.getElem?_setIfInBounds_self_of_lt (blk_lt hb)], ?_⟩
    simp [hl]
  · refine ⟨rfl, rfl, rfl, by simp, fun k _ hk => ?_⟩
    show (w.heap.setIfInBounds M _)[k]? = w.heap[k]?
    rw [Array.getElem?_setIfInBounds_ne (fun e => hk e.symm)]

/-- Pointers to blocks as keys. -/
abbrev ptr (b : Nat) : Value := .pointer (some ⟨b, 0, none⟩)
/-- A block of cells. -/
def IsB (w : World) (b : Nat) : Prop := ∃ ca ta, w.heap[b]? = some (.cells ca ta (0, 0))
theorem size_table : ∃ j, Try.prog.info? 66 = some j ∧ j.size ≠ 0 := by
  have h : (Try.prog.info? 66).map (fun i => i.size) = some 3 := by kernel_rfl
  cases hi : Try.prog.info? 66 with
  | none => rw [hi] at h; cases h
  | some j => rw [hi] at h; exact ⟨j, rfl, by simp at h; omega⟩
theorem eq_ptr (u v : Nat) (w : World) (hu : IsB w u) (hv : IsB w v) (d : Nat) : (Op.equalIn (d + 1) 63 (ptr u) (ptr v)).run Try.prog w = .ok (u == v) w := by
  obtain ⟨j, hj, hs⟩ := size_table
  obtain ⟨ca, ta, ha⟩ := hu
  obtain ⟨cb, tb, hb⟩ := hv
  by_cases h : u = v
  · subst h
    simp [Op.equalIn, run_underlying Try.underlying63, sizeOf, typeInfo, hj, run_sameAddr_same]
  · have hne : (⟨u, 0, none⟩ : Addr) ≠ ⟨v, 0, none⟩ := fun e => h (by cases e; rfl)
    simp [Op.equalIn, run_underlying Try.underlying63, sizeOf, typeInfo, hj, hs, run_sameAddr_other w hne ha hb, h]
theorem findG_mem (f : Nat → Nat) (hf : Nat → Value) (r : Nat) : ∀ (S : List Nat), (∀ i ∈ S, f i = f r → i = r) → (findG (fun a b => a == b) (f r) (S.map fun i => (f i, hf i))).isSome = decide (r ∈ S)
  | [], _ => rfl
  | i :: S, h => by
    simp only [List.map_cons, findG]
    by_cases e : f r = f i
    · rw [if_pos (by simpa using e)]
      have := h i (by simp) e.symm
      subst this
      simp
    · rw [if_neg (by simpa using e), findG_mem f hf r S (fun j hj => h j (by simp [hj]))]
      have : ¬ r = i := fun x => e (by rw [x])
      simp [this]

theorem findG_const {α : Type} (eqb : α → α → Bool) (v : α) (T : Nat → α) (c : Value) : ∀ S : List Nat, (findG eqb v (S.map fun j => (T j, c))).getD c = c
  | [] => rfl
  | i :: S => by
    simp only [List.map_cons, findG]
    split
    · rfl
    · exact findG_const eqb v T c S

end Go.Proofs.Ytgflalfiopnmnaa
