import Derived.Test.YtgflalfiopnmnaaGreatDoorLkLink
namespace Go.Proofs.YtgflalfiopnmnaaGreatDoor
open Go.RowKit Vl

/-- The world ahead of the tables: the graph, the place of the answer, the row of the tables. -/
structure Ahead (w wr : World) (g : Array Value) : Prop where
  graph : wr.heap[w.heap.size]? = some (.cells g 27 (0, 0))
  res : wr.heap[w.heap.size + 1]? = some (.cells #[.nilIface, .slice none 0 0] 57 (0, 0))
  bel : Below w.heap.size w wr

theorem Ahead.only {w wr wr' : World} {g : Array Value} {P : Nat → Prop} (h : Ahead w wr g) (ho : Only P wr wr') (hP : ∀ k, P k → w.heap.size + 2 ≤ k) : Ahead w wr' g :=
  ⟨(ho.block _ (blk_lt h.graph) (fun x => by have := hP _ x; omega)).trans h.graph, (ho.block _ (blk_lt h.res) (fun x => by have := hP _ x; omega)).trans h.res,
   h.bel.trans (ho.toBelow (fun k x => by have := hP k x; omega) h.bel.size)⟩
theorem Ahead.below {w wr wr' : World} {g : Array Value} (h : Ahead w wr g) (hb : Below wr.heap.size wr wr') : Ahead w wr' g :=
  ⟨(hb.block _ (blk_lt h.graph)).trans h.graph, (hb.block _ (blk_lt h.res)).trans h.res, grw h.bel hb⟩

theorem two_at {w : World} {B : Nat} {a b : Value} {t : TypeId} (H : w.heap[B]? = some (.cells #[a, b] t (0, 0))) : w.cell? ⟨B, 0, none⟩ = some a ∧ w.cell? ⟨B, 1, none⟩ = some b ∧ ∀ i, w.frozen? ⟨B, i, none⟩ = false := by
  refine ⟨?_, ?_, fun i => ?_⟩ <;> simp [World.cell?, World.frozen?, H]
theorem two_put {w : World} {B : Nat} {a b : Value} {t : TypeId} (H : w.heap[B]? = some (.cells #[a, b] t (0, 0))) (a' b' : Value) : ((w.setCell ⟨B, 0, none⟩ a').setCell ⟨B, 1, none⟩ b').heap[B]? = some (.cells #[a', b'] t (0, 0)) := by
  simp [World.setCell, Array.getElem?_modify, H]

/-- All tables are there: r of them are filled. -/
structure Half (w : World) (b n r : Nat) (base : Nat → Nat) (L : Nat → Nat) (K X : Nat → Nat → V) : Prop where
  row : w.rowIs (b + 2) 107 n (fun j => .pointer (some ⟨tT b j, 0, none⟩))
  full : ∀ j, j < r → Filled w (tT b j) (tM b j) (base j) j (tT b) (K j) (X j) (L j) ∧ b + 3 + 2 * n ≤ base j
  empty : ∀ j, r ≤ j → j < n → TabB w (tT b j) (tM b j) j (.slice none 0 0) ∧ MapIs w (tM b j) []
  size : b + 3 + 2 * n ≤ w.heap.size

theorem Half.tabs {w : World} {b n r : Nat} {base L : Nat → Nat} {K X : Nat → Nat → V} (h : Half w b n r base L K X) : Tabs w (some ⟨b + 2, 0, none⟩) (b + 2) n (tT b) := by
  refine ⟨fun _ => rfl, fun j hj => h.row.cell hj, fun j hj => ?_⟩
  by_cases e : j < r
  · obtain ⟨ord, h1, _⟩ := (h.full j e).1.tab
    exact h1.cells.1
  · exact (h.empty j (by omega) hj).1.cells.1

theorem Half.below {w w' : World} {b n r : Nat} {base L : Nat → Nat} {K X : Nat → Nat → V} (h : Half w b n r base L K X) (hb : Below w.heap.size w w') : Half w' b n r base L K X :=
  ⟨h.row.of_block (hb.block _ h.row.lt), fun j hj => ⟨(h.full j hj).1.below hb, (h.full j hj).2⟩, fun j h1 h2 => ⟨(hb.block _ (blk_lt (h.empty j h1 h2).1)).trans (h.empty j h1 h2).1, (h.empty j h1 h2).2.same (hb.block _ (h.empty j h1 h2).2.lt)⟩, Nat.le_trans h.size hb.size⟩

/-- One more is filled. -/
theorem Half.fill {w w' : World} {b n r : Nat} {base L : Nat → Nat} {K X : Nat → Nat → V} (h : Half w b n r base L K X) (hr : r < n) (ho : Only (fun k => k = tT b r ∨ k = tM b r) w w') (hf : Filled w' (tT b r) (tM b r) w.heap.size r (tT b) (K r) (X r) (L r)) :
    Half w' b n (r + 1) (fun j => if j = r then w.heap.size else base j) L K X := by
  have hs := h.size
  refine ⟨h.row.of_block (ho.block _ h.row.lt (by unfold tT tM; omega)), fun j hj => ?_, fun j h1 h2 => ?_, Nat.le_trans hs ho.size⟩
  · by_cases e : j = r
    · subst e; simp only [if_true]; exact ⟨hf, hs⟩
    · simp only [if_neg e]
      obtain ⟨f1, f2⟩ := h.full j (by omega)
      exact ⟨f1.only ho (by unfold tT tM; omega) (by unfold tT tM; omega) (fun g hg => by unfold tT tM; omega), f2⟩
  · obtain ⟨e1, e2⟩ := h.empty j (by omega) h2
    exact ⟨(ho.block _ (blk_lt e1) (by unfold tT tM; omega)).trans e1, e2.same (ho.block _ e2.lt (by unfold tT tM; omega))⟩

theorem Laid.half {w : World} {b n : Nat} {L : Nat → Nat} {K X : Nat → Nat → V} (h : Laid w b n n) : Half w b n 0 (fun _ => 0) L K X :=
  ⟨h.row.congr (fun j hj => by rw [if_pos hj]), fun j hj => by omega, fun j _ h2 => h.tab j h2, by rw [h.size]; omega⟩

theorem ifv_form (Tt : Nat → Nat) (u : V) : ∃ t y, ifv Tt u = .iface t y := by
  unfold ifv
  split
  · exact ⟨_, _, rfl⟩
  · split
    · exact ⟨_, _, rfl⟩
    · split
      · exact ⟨_, _, rfl⟩
      · split
        · exact ⟨_, _, rfl⟩
        · exact ⟨_, _, rfl⟩

set_option maxHeartbeats 2000000 in
set_option maxRecDepth 100000 in
/-- 'link'. -/
theorem link_any (u : V) (ta : Option Addr) (n cp TB TO : Nat) (A : Nat → Option Addr) (L C RB RO : Nat → Nat) (K X : Nat → Nat → V) (w : World) (hn : n ≤ 1048576)
    (HS : Hid (Small 1048576 n L K X)) (HT : Hid (TabsAt w ta n TB TO A L C RB RO K X)) :
    Calls Tryz.prog 23 #[.agg #[.int .i64 u.k, .int .i64 u.n, .string u.s, .int .i64 u.a, .slice ta n cp]] w fun e w' =>
      ((OkG n u L K X ∧ e = .returned (.tuple #[.agg #[ifv (tT w.heap.size) u, .slice (some ⟨w.heap.size + 2, 0, none⟩) n n], .bool true]) ∧ ∃ base, Half w' w.heap.size n n base L K X) ∨ (¬ OkG n u L K X ∧ e = .returned (.tuple #[.agg #[.nilIface, .slice none 0 0], .bool false]))) ∧ Below w.heap.size w w' := by
  obtain ⟨b, hb⟩ : ∃ b, w.heap.size = b := ⟨_, rfl⟩
  have A2 : Hid _ := alloc2 w (.cells #[.int .i64 u.k, .int .i64 u.n, .string u.s, .int .i64 u.a, .slice ta n cp] 27) (.cells #[.nilIface, .slice none 0 0] 57)
  obtain ⟨wa, hwa⟩ : ∃ wa, wa = (w.alloc (.cells #[.int .i64 u.k, .int .i64 u.n, .string u.s, .int .i64 u.a, .slice ta n cp] 27)).alloc (.cells #[.nilIface, .slice none 0 0] 57) := ⟨_, rfl⟩
  have HA : Hid (Ahead w wa #[.int .i64 u.k, .int .i64 u.n, .string u.s, .int .i64 u.a, .slice ta n cp]) := by rw [hwa]; exact ⟨A2.out.1, A2.out.2.1, A2.out.2.2.2⟩
  have hsa : Hid (wa.heap.size = w.heap.size + 2) := by rw [hwa]; exact A2.out.2.2.1
  clear A2
  obtain ⟨g0, g1, g2, g3, g4, _⟩ := cells5 HA.out.graph
  by_cases h200 : n ≤ 200
  · have hmk := run_make_n 55 107 _ 1 8 Tryz.underlying55 Tryz.info107 n (by omega) (by omega)
    simp only [Nat.mul_one] at hmk
    have hmm := @run_makeMap Tryz.prog
    go_enter Tryz.func23, Tryz.ntmps23
    go_wp2
    rw [← hwa]
    have hsa' : wa.heap.size = b + 2 := by have := hsa.out; omega
    have HA1 : Hid (Ahead w (wa.alloc (.cells (madeCells #[.pointer none] n) 107)) #[.int .i64 u.k, .int .i64 u.n, .string u.s, .int .i64 u.a, .slice ta n cp]) := by
      have h := HA.out
      exact ⟨(Below.heap_alloc _ _ _ (blk_lt h.graph)).trans h.graph, (Below.heap_alloc _ _ _ (blk_lt h.res)).trans h.res, h.bel.alloc h.bel.size _⟩
    have HL1 : Hid (Laid (wa.alloc (.cells (madeCells #[.pointer none] n) 107)) b n 0) := by
      refine ⟨?_, fun j hj => by omega, by simp; omega⟩
      rw [← hsa']
      exact (row_made wa #[.pointer none] n 107).congr (fun i _ => by rw [if_neg (by omega)]; simp [Nat.mod_one])
    clear hmk hwa g0 g1 g2 g3 g4 hsa' hsa HA
    go_loopw [21] (fun ii wr => ∃ c : Nat, c ≤ n ∧ ii = .int .i64 c ∧ Hid (Laid wr b n c) ∧ Hid (Ahead w wr #[.int .i64 u.k, .int .i64 u.n, .string u.s, .int .i64 u.a, .slice ta n cp])) (fun ii _ => n - (intOf ii).toNat)
    case atStart => exact ⟨0, Nat.zero_le _, rfl, HL1, HA1⟩
    case round =>
      obtain ⟨c, hc, rfl, HL, HAr⟩ := hrel
      clear HL1 HA1
      by_cases hlt : c < n
      · have hs := HL.out.size
        have c0 : ∀ o1 o2, ((wr.alloc o1).alloc o2).cell? ⟨b + 1 + 1, c, none⟩ = some (.pointer none) := fun o1 o2 => by
          have := ((HL.out.row.alloc o1).alloc o2).cell hlt
          rw [if_neg (by omega)] at this
          exact this
        have z0 : ∀ o1 o2 j, ((wr.alloc o1).alloc o2).frozen? ⟨b + 1 + 1, j, none⟩ = false := fun o1 o2 => ((HL.out.row.alloc o1).alloc o2).frozen
        have HN := HL.out.next hlt
        have HA2 : Hid (Ahead w (((wr.alloc (.map #[] 0)).alloc (.cells #[.int .i64 c, .map (some (tM b c)), .slice none 0 0] 121)).setCell ⟨b + 2, c, none⟩ (.pointer (some ⟨tT b c, 0, none⟩))) #[.int .i64 u.k, .int .i64 u.n, .string u.s, .int .i64 u.a, .slice ta n cp]) := by
          have h := HAr.out
          have A := alloc2 wr (.map #[] 0) (.cells #[.int .i64 c, .map (some (tM b c)), .slice none 0 0] 121)
          refine ⟨?_, ?_, ?_⟩
          · rw [Below.heap_setCell _ _ _ _ (show w.heap.size ≠ b + 2 by omega), A.2.2.2.block _ (blk_lt h.graph)]; exact h.graph
          · rw [Below.heap_setCell _ _ _ _ (show w.heap.size + 1 ≠ b + 2 by omega), A.2.2.2.block _ (blk_lt h.res)]; exact h.res
          · exact (grw h.bel A.2.2.2).setCell (by show w.heap.size ≤ b + 2; omega) _
        have HN2 : Hid (Laid (((wr.alloc (.map #[] 0)).alloc (.cells #[.int .i64 c, .map (some (tM b c)), .slice none 0 0] 121)).setCell ⟨b + 2, c, none⟩ (.pointer (some ⟨tT b c, 0, none⟩))) b n (c + 1)) := HN
        clear HN HL HAr
        go_wp2
        go_roundw
        case rel =>
          have e : b + 3 + 2 * c + 1 = b + 4 + 2 * c := by omega
          rw [e]
          exact ⟨c + 1, by omega, by go_num, HN2, HA2⟩
        case measure => simp [intOf]; omega
      · obtain rfl : c = n := by omega
        have HH : Hid (Half wr b c 0 (fun _ => 0) L K X) := HL.out.half
        obtain ⟨g0, g1, g2, g3, g4, _⟩ := cells5 HAr.out.graph
        rw [hb] at g0 g1 g2 g3 g4
        clear HL hmm
        go_wp2
        clear g0 g1 g2 g3 g4
        obtain ⟨wh, hwh⟩ : ∃ wh, wh = wr := ⟨_, rfl⟩
        rw [← hwh] at HH HAr
        go_loopw [35] (fun ii wr => ∃ (r : Nat) (base : Nat → Nat), r ≤ c ∧ ii = .int .i64 r ∧ Hid (Half wr b c r base L K X) ∧ Hid (∀ q, q < r → OkT c (L q) (K q) (X q)) ∧ Hid (Ahead w wr #[.int .i64 u.k, .int .i64 u.n, .string u.s, .int .i64 u.a, .slice ta c cp])) (fun ii _ => c - (intOf ii).toNat)
        case atStart => rw [← hwh]; exact ⟨0, _, Nat.zero_le _, rfl, HH, fun q hq => absurd hq (Nat.not_lt_zero _), HAr⟩
        case round =>
          obtain ⟨r, base, hr, rfl, HHr, HQ, HAr2⟩ := hrel
          clear HH HAr hwh
          by_cases hlt : r < c
          · obtain rfl := HT.out.top (by omega)
            have HTr : Hid (TabsAt wr (some ⟨TB, TO, none⟩) c TB TO A L C RB RO K X) := HT.out.below HAr2.out.bel
            have t0 := HTr.out.tab r hlt
            obtain ⟨wv, hwv⟩ : ∃ wv, wv = wr.alloc (.cells #[.slice (A r) (L r) (C r)] 37) := ⟨_, rfl⟩
            have HBv : Hid (Below wr.heap.size wr wv) := by rw [hwv]; exact (Below.refl _ _).alloc (Nat.le_refl _) _
            have HHv : Hid (Half wv b c r base L K X) := HHr.out.below HBv.out
            have hbv : b + 3 + 2 * c ≤ wr.heap.size := HHr.out.size
            have HAv : Hid (Ahead w wv #[.int .i64 u.k, .int .i64 u.n, .string u.s, .int .i64 u.a, .slice (some ⟨TB, TO, none⟩) c cp]) := by
              have h := HAr2.out
              exact ⟨(HBv.out.block _ (blk_lt h.graph)).trans h.graph, (HBv.out.block _ (blk_lt h.res)).trans h.res, grw h.bel HBv.out⟩
            have v0 : wv.cell? ⟨wr.heap.size, 0, none⟩ = some (.slice (A r) (L r) (C r)) := by rw [hwv]; exact (one_at (heap_alloc_new wr (.cells #[.slice (A r) (L r) (C r)] 37))).1
            have p0 : wv.cell? ⟨b + 1 + 1, r, none⟩ = some (.pointer (some ⟨b + 4 + 2 * r, 0, none⟩)) := HHv.out.row.cell hlt
            have hfill := fill_any (b + 4 + 2 * r) (b + 3 + 2 * r) r (A r) (L r) (C r) (RB r) (RO r) (K r) (X r) (some ⟨b + 1 + 1, 0, none⟩) (b + 2) c c (tT b) wv.drew (HS.out r hlt).1
              (HHv.out.empty r (Nat.le_refl _) hlt).1 (HHv.out.empty r (Nat.le_refl _) hlt).2 ((HTr.out.below HBv.out.drew).row r hlt) (HHv.out.tabs.below ((Below.refl _ _).drew)) (by omega)
              (show _ → _ from fun h => by have := World.block_lt_of_cell? _ _ ((HT.out.row r hlt).key 0 h).1; simp only at this; omega)
              (show _ → _ from fun _ => by omega) (show ∀ j, _ from fun j hj => by constructor <;> (try unfold tT) <;> (try intro) <;> omega)
            obtain ⟨vb, hvb⟩ : ∃ vb, wr.heap.size = vb := ⟨_, rfl⟩
            rw [hvb] at v0 hbv
            go_wp2
            rw [← hwv]
            clear hwv hvb t0
            have p0d : wv.drew.cell? ⟨b + 1 + 1, r, none⟩ = some (.pointer (some ⟨b + 4 + 2 * r, 0, none⟩)) := p0
            have v0d : wv.drew.cell? ⟨vb, 0, none⟩ = some (.slice (A r) (L r) (C r)) := v0
            have hn1 : ¬ (b + 1 + 1 = b + 4 + 2 * r ∨ b + 1 + 1 = b + 3 + 2 * r) := by omega
            have hn2 : ¬ (vb = b + 4 + 2 * r ∨ vb = b + 3 + 2 * r) := by omega
            go_region_held3 (fun w' => w'.cell? ⟨b + 1 + 1, r, none⟩ = some (.pointer (some ⟨b + 4 + 2 * r, 0, none⟩)) ∧ w'.cell? ⟨vb, 0, none⟩ = some (.slice (A r) (L r) (C r)))
              (first | with_reducible exact S3.out | exact ⟨p0, v0⟩)
              ((go_at_call 50; refine hfill.mono ?_; rintro e w3 ⟨⟨bb, rfl, hbb⟩, hO3, hF3⟩; have S3 : Hid (w3.cell? ⟨b + 1 + 1, r, none⟩ = some (.pointer (some ⟨b + 4 + 2 * r, 0, none⟩)) ∧ w3.cell? ⟨vb, 0, none⟩ = some (.slice (A r) (L r) (C r))) := show _ ∧ _ from ⟨hO3.cell (p := ⟨b + 1 + 1, r, none⟩) p0d hn1, hO3.cell (p := ⟨vb, 0, none⟩) v0d hn2⟩))
            clear hfill p0 v0 p0d v0d S3 hn1 hn2
            have HA3 : Hid (Ahead w w3 #[.int .i64 u.k, .int .i64 u.n, .string u.s, .int .i64 u.a, .slice (some ⟨TB, TO, none⟩) c cp]) := (show Ahead w wv.drew _ from HAv.out.below ((Below.refl _ _).drew)).only hO3 (fun k h => by omega)
            cases bb
            · have HN : Hid (¬ OkG c u L K X) := show ¬ OkG c u L K X from fun h => by have := hbb.2 (h.all r hlt); cases this
              clear hF3 hbb hO3
              have R0 : Hid (w3.heap[b + 1]? = some (.cells #[.nilIface, .slice none 0 0] 57 (0, 0))) := by rw [← hb]; exact HA3.out.res
              obtain ⟨r0, r1, rz⟩ := two_at R0.out
              go_wp2
              have R1 := two_put R0.out .nilIface (.slice none 0 0)
              obtain ⟨q0, q1, _⟩ := two_at R1
              refine bodyPost_ret (v := .tuple #[.agg #[.nilIface, .slice none 0 0], .bool false]) (by simp [results, Tryz.results23, go_sem, q0, q1]) rfl ⟨Or.inr ⟨HN.out, rfl⟩, ?_⟩
              exact (HA3.out.bel.setCell (by show w.heap.size ≤ b + 1; omega) _).setCell (by show w.heap.size ≤ b + 1; omega) _
            · have HF : Hid (Filled w3 (tT b r) (tM b r) wv.heap.size r (tT b) (K r) (X r) (L r)) := hF3 (hbb.1 rfl)
              have HH3 : Hid (Half w3 b c (r + 1) (fun j => if j = r then wv.heap.size else base j) L K X) := HHv.out.fill hlt (show Only _ wv w3 from ⟨hO3.os, hO3.tape, hO3.output, hO3.size, hO3.block⟩) HF.out
              have HQ3 : Hid (∀ q, q < r + 1 → OkT c (L q) (K q) (X q)) := show ∀ q, q < r + 1 → _ from fun q hq => by
                by_cases e : q = r
                · subst e; exact hbb.1 rfl
                · exact HQ.out q (by omega)
              clear hF3 hbb hO3 HF HQ
              go_wp2
              go_roundw
              case rel => exact ⟨r + 1, _, by omega, by go_num, HH3, HQ3, HA3⟩
              case measure => simp [intOf]; omega
          · obtain rfl : r = c := by omega
            obtain ⟨g0, g1, g2, g3, g4, _⟩ := cells5 HAr2.out.graph
            rw [hb] at g0 g1 g2 g3 g4
            have hof := of_any u (some ⟨b + 1 + 1, 0, none⟩) (b + 2) r r (tT b) wr HHr.out.tabs
            obtain ⟨bu, hbu⟩ : ∃ x, isV r u = x := ⟨_, rfl⟩
            rw [hbu] at hof
            go_wp2_with fail
            refine hof.mono ?_
            clear hof
            rintro e w3 ⟨rfl, hb3⟩
            have HA3 : Hid (Ahead w w3 #[.int .i64 u.k, .int .i64 u.n, .string u.s, .int .i64 u.a, .slice ta r cp]) := HAr2.out.below hb3
            have HH3 : Hid (Half w3 b r r base L K X) := HHr.out.below hb3
            clear hb3 HAr2 HHr g0 g1 g2 g3 g4
            have R0 : Hid (w3.heap[b + 1]? = some (.cells #[.nilIface, .slice none 0 0] 57 (0, 0))) := by rw [← hb]; exact HA3.out.res
            obtain ⟨r0, r1, rz⟩ := two_at R0.out
            cases bu
            · have HN : Hid (¬ OkG r u L K X) := show ¬ OkG r u L K X from fun h => by have := h.root; rw [hbu] at this; cases this
              clear hbu
              go_wp2
              have R1 := two_put R0.out .nilIface (.slice none 0 0)
              obtain ⟨q0, q1, _⟩ := two_at R1
              refine bodyPost_ret (v := .tuple #[.agg #[.nilIface, .slice none 0 0], .bool false]) (by simp [results, Tryz.results23, go_sem, q0, q1]) rfl ⟨Or.inr ⟨HN.out, rfl⟩, ?_⟩
              exact (HA3.out.bel.setCell (by show w.heap.size ≤ b + 1; omega) _).setCell (by show w.heap.size ≤ b + 1; omega) _
            · have HG : Hid (OkG r u L K X) := show OkG r u L K X from ⟨h200, hbu, HQ.out⟩
              obtain ⟨xt, xy, hxv⟩ := ifv_form (tT b) u
              have HXV : Hid (ifv (tT b) u = .iface xt xy) := hxv
              rw [if_pos rfl, HXV.out]
              clear hxv
              clear hbu
              go_wp2
              have R1 := two_put R0.out (.iface xt xy) (.slice (some ⟨b + 1 + 1, 0, none⟩) r r)
              obtain ⟨q0, q1, _⟩ := two_at R1
              refine bodyPost_ret (v := .tuple #[.agg #[.iface xt xy, .slice (some ⟨b + 1 + 1, 0, none⟩) r r], .bool true]) (by simp [results, Tryz.results23, go_sem, q0, q1]) rfl ⟨Or.inl ⟨HG.out, ?_, base, ?_⟩, ?_⟩
              · rw [hb, HXV.out]
              · rw [hb]
                have h := HH3.out
                have k1 : ∀ k, k ≠ b + 1 → (((w3.setCell ⟨b + 1, 0, none⟩ (.iface xt xy)).setCell ⟨b + 1, 1, none⟩ (.slice (some ⟨b + 1 + 1, 0, none⟩) r r))).heap[k]? = w3.heap[k]? := fun k hk => by
                  rw [Below.heap_setCell _ _ _ _ (show k ≠ b + 1 from hk), Below.heap_setCell _ _ _ _ (show k ≠ b + 1 from hk)]
                have ho : Only (fun k => k = b + 1) w3 (((w3.setCell ⟨b + 1, 0, none⟩ (.iface xt xy)).setCell ⟨b + 1, 1, none⟩ (.slice (some ⟨b + 1 + 1, 0, none⟩) r r))) := ⟨rfl, rfl, rfl, by simp [World.setCell], fun k _ hk => k1 k hk⟩
                refine ⟨h.row.of_block (k1 _ (by omega)), fun j hj => ⟨(h.full j hj).1.only ho (by unfold tT; omega) (by unfold tM; omega) (fun g hg => by have := (h.full j hj).2; omega), (h.full j hj).2⟩, fun j h1 h2 => by omega, ?_⟩
                have := h.size
                simp [World.setCell]
                omega
              · exact (HA3.out.bel.setCell (by show w.heap.size ≤ b + 1; omega) _).setCell (by show w.heap.size ≤ b + 1; omega) _
  · have HN : Hid (¬ OkG n u L K X) := show ¬ OkG n u L K X from fun h => h200 h.len
    have hgt : 200 < n := by omega
    have R0 : Hid (wa.heap[b + 1]? = some (.cells #[.nilIface, .slice none 0 0] 57 (0, 0))) := by rw [← hb]; exact HA.out.res
    obtain ⟨r0, r1, rz⟩ := two_at R0.out
    rw [hb] at g0 g1 g2 g3 g4
    go_enter Tryz.func23, Tryz.ntmps23
    go_wp2
    rw [← hwa]
    refine bodyPost_ret (v := .tuple #[.agg #[.nilIface, .slice none 0 0], .bool false]) (by simp [results, Tryz.results23, go_sem, r0, r1]) rfl ⟨Or.inr ⟨HN.out, rfl⟩, HA.out.bel⟩

end Go.Proofs.YtgflalfiopnmnaaGreatDoor
