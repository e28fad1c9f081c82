import Derived.Test.YtgflalfiopnmnabG1
import Derived.Test.YtgflalfiopnmnabVlOrd
import Derived.Test.YtgflalfiopnmnabVlSp
import Derived.Sort.Grow
import Derived.Shelf.SlSortCmp.WholeK
import Derived.Shelf.SlLaysF0
import Derived.ChangeKeysEq
import Derived.Test.YtgflalfiopnmnabSmPure
namespace Go.Proofs.Ytgflalfiopnmnab
open Go.RowKit Vl

/-- Tables of their own: none lies ahead of base, and no two have one order. -/
structure Ap (w : World) (base n : Nat) (T M : Nat → Nat) : Prop where
  lo : ∀ j, j < n → base ≤ T j
  own : ∀ j a o g, j < n → TabB w (T j) (M j) a o → o.ownBlock = some g → base ≤ g
  one : ∀ i j a o a' o' g, i < n → j < n → TabB w (T i) (M i) a o → TabB w (T j) (M j) a' o' → o.ownBlock = some g → o'.ownBlock = some g → i = j
  mlo : ∀ j, j < n → base ≤ M j
  mone : ∀ i j, i < n → j < n → M i = M j → i = j

theorem Ap.zero (w : World) (base : Nat) (T M : Nat → Nat) : Ap w base 0 T M :=
  ⟨fun _ hj => absurd hj (Nat.not_lt_zero _), fun _ _ _ _ hj => absurd hj (Nat.not_lt_zero _), fun _ _ _ _ _ _ _ hi => absurd hi (Nat.not_lt_zero _), fun _ hj => absurd hj (Nat.not_lt_zero _), fun _ _ hi => absurd hi (Nat.not_lt_zero _)⟩
theorem Ap.same {w w' : World} {base n : Nat} {T M : Nat → Nat} (h : Ap w base n T M) (hs : ∀ j, j < n → w'.heap[T j]? = w.heap[T j]?) : Ap w' base n T M := by
  have e : ∀ j a o, j < n → TabB w' (T j) (M j) a o → TabB w (T j) (M j) a o := fun j a o hj h' => (hs j hj).symm.trans h'
  exact ⟨h.lo, fun j a o g hj ht hg => h.own j a o g hj (e j a o hj ht) hg, fun i j a o a' o' g hi hj h1 h2 => h.one i j a o a' o' g hi hj (e i a o hi h1) (e j a' o' hj h2), h.mlo, h.mone⟩
theorem TabB.ord {w : World} {T M M' : Nat} {i i' : Int} {o o' : Value} (h : TabB w T M i o) (h' : TabB w T M' i' o') : o = o' := by
  unfold TabB at h h'
  rw [h] at h'
  simp only [Option.some.injEq, Obj.cells.injEq, Array.mk.injEq, List.cons.injEq] at h'
  exact h'.1.2.2.1
theorem Ap.half {w w' : World} {b n r : Nat} {base L : Nat → Nat} {K X : Nat → Nat → V} (h : Ap w b r (tT b) (tM b)) (H : Half w b n r base L K X) (hb : Below w.heap.size w w') : Ap w' b r (tT b) (tM b) :=
  h.same (fun j hj => by
    obtain ⟨ord, h1, _⟩ := (H.full j hj).1.tab
    exact hb.block _ (blk_lt h1))
theorem Ap.fill {w w' : World} {b n r : Nat} {base L : Nat → Nat} {K X : Nat → Nat → V} (h : Ap w b r (tT b) (tM b)) (H : Half w b n r base L K X) (hr : r < n) (ho : Only (fun k => k = tT b r ∨ k = tM b r) w w') (hf : Filled w' (tT b r) (tM b r) w.heap.size r (tT b) (K r) (X r) (L r)) : Ap w' b (r + 1) (tT b) (tM b) := by
  have hs := H.size
  have old : ∀ j a o, j < r → TabB w' (tT b j) (tM b j) a o → TabB w (tT b j) (tM b j) a o := fun j a o hj h' => by
    obtain ⟨ord, h1, _⟩ := (H.full j hj).1.tab
    exact (ho.block _ (blk_lt h1) (by unfold tT tM; omega)).symm.trans h'
  have small : ∀ j a o g, j < r → TabB w' (tT b j) (tM b j) a o → o.ownBlock = some g → g < w.heap.size := fun j a o g hj h' hg => by
    obtain ⟨ord, h1, h2⟩ := (H.full j hj).1.tab
    have e := h1.ord (old j a o hj h')
    subst e
    obtain ⟨_, _, _, hk⟩ := owns_form h2
    exact (hk g hg).2
  have big : ∀ a o g, TabB w' (tT b r) (tM b r) a o → o.ownBlock = some g → w.heap.size ≤ g := fun a o g h' hg => by
    obtain ⟨ord, h1, h2⟩ := hf.tab
    have e := h1.ord h'
    subst e
    obtain ⟨_, _, _, hk⟩ := owns_form h2
    exact (hk g hg).1
  refine ⟨fun j _ => by unfold tT; omega, fun j a o g hj ht hg => ?_, fun i j a o a' o' g hi hj h1 h2 g1 g2 => ?_, fun j _ => by unfold tM; omega, fun i j _ _ e => by unfold tM at e; omega⟩
  · by_cases e : j = r
    · subst e; have := big a o g ht hg; omega
    · exact h.own j a o g (by omega) (old j a o (by omega) ht) hg
  · by_cases e : i = r
    · by_cases e' : j = r
      · omega
      · subst e
        have := big a o g h1 g1
        have := small j a' o' g (by omega) h2 g2
        omega
    · by_cases e' : j = r
      · subst e'
        have := big a' o' g h2 g2
        have := small i a o g (by omega) h1 g1
        omega
      · exact h.one i j a o a' o' g (by omega) (by omega) (old i a o (by omega) h1) (old j a' o' (by omega) h2) g1 g2

set_option maxHeartbeats 2000000 in
set_option maxRecDepth 100000 in
/-- 'link': the tables that it makes share no order. -/
theorem link_apart (u : V) (ta : Option Addr) (n cp TB TO : Nat) (A : Nat → Option Addr) (L C RB RO : Nat → Nat) (K X : Nat → Nat → V) (w : World) (hn : n ≤ 1048576)
    (HS : Hid (Small 1048576 n L K X)) (HT : Hid (TabsAt w ta n TB TO A L C RB RO K X)) :
    Calls Try.prog 47 #[.agg #[.int .i64 u.k, .int .i64 u.n, .string u.s, .int .i64 u.a, .slice ta n cp]] w fun e w' =>
      ((OkG n u L K X ∧ e = .returned (.tuple #[.agg #[ifv (tT w.heap.size) u, .slice (some ⟨w.heap.size + 2, 0, none⟩) n n], .bool true]) ∧ (∃ base, Half w' w.heap.size n n base L K X) ∧ Ap w' w.heap.size n (tT w.heap.size) (tM w.heap.size)) ∨ (¬ OkG n u L K X ∧ e = .returned (.tuple #[.agg #[.nilIface, .slice none 0 0], .bool false]))) ∧ Below w.heap.size w w' := by
  obtain ⟨b, hb⟩ : ∃ b, w.heap.size = b := ⟨_, rfl⟩
  have A2 : Hid _ := alloc2 w (.cells #[.int .i64 u.k, .int .i64 u.n, .string u.s, .int .i64 u.a, .slice ta n cp] 32) (.cells #[.nilIface, .slice none 0 0] 70)
  obtain ⟨wa, hwa⟩ : ∃ wa, wa = (w.alloc (.cells #[.int .i64 u.k, .int .i64 u.n, .string u.s, .int .i64 u.a, .slice ta n cp] 32)).alloc (.cells #[.nilIface, .slice none 0 0] 70) := ⟨_, rfl⟩
  have HA : Hid (Ahead w wa #[.int .i64 u.k, .int .i64 u.n, .string u.s, .int .i64 u.a, .slice ta n cp]) := by rw [hwa]; exact ⟨A2.out.1, A2.out.2.1, A2.out.2.2.2⟩
  have hsa : Hid (wa.heap.size = w.heap.size + 2) := by rw [hwa]; exact A2.out.2.2.1
  clear A2
  obtain ⟨g0, g1, g2, g3, g4, _⟩ := cells5 HA.out.graph
  by_cases h200 : n ≤ 200
  · have hmk := run_make_n 68 92 _ 1 8 Try.underlying68 Try.info92 n (by omega) (by omega)
    simp only [Nat.mul_one] at hmk
    have hmm := @run_makeMap Try.prog
    go_enter Try.func47, Try.ntmps47
    go_wp2
    rw [← hwa]
    have hsa' : wa.heap.size = b + 2 := by have := hsa.out; omega
    have HA1 : Hid (Ahead w (wa.alloc (.cells (madeCells #[.pointer none] n) 92)) #[.int .i64 u.k, .int .i64 u.n, .string u.s, .int .i64 u.a, .slice ta n cp]) := by
      have h := HA.out
      exact ⟨(Below.heap_alloc _ _ _ (blk_lt h.graph)).trans h.graph, (Below.heap_alloc _ _ _ (blk_lt h.res)).trans h.res, h.bel.alloc h.bel.size _⟩
    have HL1 : Hid (Laid (wa.alloc (.cells (madeCells #[.pointer none] n) 92)) b n 0) := by
      refine ⟨?_, fun j hj => by omega, by simp; omega⟩
      rw [← hsa']
      exact (row_made wa #[.pointer none] n 92).congr (fun i _ => by rw [if_neg (by omega)]; simp [Nat.mod_one])
    clear hmk hwa g0 g1 g2 g3 g4 hsa' hsa HA
    go_loopw [21] (fun ii wr => ∃ c : Nat, c ≤ n ∧ ii = .int .i64 c ∧ Hid (Laid wr b n c) ∧ Hid (Ahead w wr #[.int .i64 u.k, .int .i64 u.n, .string u.s, .int .i64 u.a, .slice ta n cp])) (fun ii _ => n - (intOf ii).toNat)
    case atStart => exact ⟨0, Nat.zero_le _, rfl, HL1, HA1⟩
    case round =>
      obtain ⟨c, hc, rfl, HL, HAr⟩ := hrel
      clear HL1 HA1
      by_cases hlt : c < n
      · have hs := HL.out.size
        have c0 : ∀ o1 o2, ((wr.alloc o1).alloc o2).cell? ⟨b + 1 + 1, c, none⟩ = some (.pointer none) := fun o1 o2 => by
          have := ((HL.out.row.alloc o1).alloc o2).cell hlt
          rw [if_neg (by omega)] at this
          exact this
        have z0 : ∀ o1 o2 j, ((wr.alloc o1).alloc o2).frozen? ⟨b + 1 + 1, j, none⟩ = false := fun o1 o2 => ((HL.out.row.alloc o1).alloc o2).frozen
        have HN := HL.out.next hlt
        have HA2 : Hid (Ahead w (((wr.alloc (.map #[] 0)).alloc (.cells #[.int .i64 c, .map (some (tM b c)), .slice none 0 0] 95)).setCell ⟨b + 2, c, none⟩ (.pointer (some ⟨tT b c, 0, none⟩))) #[.int .i64 u.k, .int .i64 u.n, .string u.s, .int .i64 u.a, .slice ta n cp]) := by
          have h := HAr.out
          have A := alloc2 wr (.map #[] 0) (.cells #[.int .i64 c, .map (some (tM b c)), .slice none 0 0] 95)
          refine ⟨?_, ?_, ?_⟩
          · rw [Below.heap_setCell _ _ _ _ (show w.heap.size ≠ b + 2 by omega), A.2.2.2.block _ (blk_lt h.graph)]; exact h.graph
          · rw [Below.heap_setCell _ _ _ _ (show w.heap.size + 1 ≠ b + 2 by omega), A.2.2.2.block _ (blk_lt h.res)]; exact h.res
          · exact (grw h.bel A.2.2.2).setCell (by show w.heap.size ≤ b + 2; omega) _
        have HN2 : Hid (Laid (((wr.alloc (.map #[] 0)).alloc (.cells #[.int .i64 c, .map (some (tM b c)), .slice none 0 0] 95)).setCell ⟨b + 2, c, none⟩ (.pointer (some ⟨tT b c, 0, none⟩))) b n (c + 1)) := HN
        clear HN HL HAr
        go_wp2
        go_roundw
        case rel =>
          have e : b + 3 + 2 * c + 1 = b + 4 + 2 * c := by omega
          rw [e]
          exact ⟨c + 1, by omega, by go_num, HN2, HA2⟩
        case measure => simp [intOf]; omega
      · obtain rfl : c = n := by omega
        have HH : Hid (Half wr b c 0 (fun _ => 0) L K X) := HL.out.half
        obtain ⟨g0, g1, g2, g3, g4, _⟩ := cells5 HAr.out.graph
        rw [hb] at g0 g1 g2 g3 g4
        clear HL hmm
        go_wp2
        clear g0 g1 g2 g3 g4
        obtain ⟨wh, hwh⟩ : ∃ wh, wh = wr := ⟨_, rfl⟩
        rw [← hwh] at HH HAr
        go_loopw [35] (fun ii wr => ∃ (r : Nat) (base : Nat → Nat), r ≤ c ∧ ii = .int .i64 r ∧ Hid (Half wr b c r base L K X) ∧ Hid (∀ q, q < r → OkT c (L q) (K q) (X q)) ∧ Hid (Ahead w wr #[.int .i64 u.k, .int .i64 u.n, .string u.s, .int .i64 u.a, .slice ta c cp]) ∧ Hid (Ap wr b r (tT b) (tM b))) (fun ii _ => c - (intOf ii).toNat)
        case atStart => rw [← hwh]; exact ⟨0, _, Nat.zero_le _, rfl, HH, fun q hq => absurd hq (Nat.not_lt_zero _), HAr, Ap.zero _ _ _ _⟩
        case round =>
          obtain ⟨r, base, hr, rfl, HHr, HQ, HAr2, HPr⟩ := hrel
          clear HH HAr hwh
          by_cases hlt : r < c
          · obtain rfl := HT.out.top (by omega)
            have HTr : Hid (TabsAt wr (some ⟨TB, TO, none⟩) c TB TO A L C RB RO K X) := HT.out.below HAr2.out.bel
            have t0 := HTr.out.tab r hlt
            obtain ⟨wv, hwv⟩ : ∃ wv, wv = wr.alloc (.cells #[.slice (A r) (L r) (C r)] 61) := ⟨_, rfl⟩
            have HBv : Hid (Below wr.heap.size wr wv) := by rw [hwv]; exact (Below.refl _ _).alloc (Nat.le_refl _) _
            have HHv : Hid (Half wv b c r base L K X) := HHr.out.below HBv.out
            have hbv : b + 3 + 2 * c ≤ wr.heap.size := HHr.out.size
            have HPv : Hid (Ap wv b r (tT b) (tM b)) := HPr.out.half HHr.out HBv.out
            have HAv : Hid (Ahead w wv #[.int .i64 u.k, .int .i64 u.n, .string u.s, .int .i64 u.a, .slice (some ⟨TB, TO, none⟩) c cp]) := by
              have h := HAr2.out
              exact ⟨(HBv.out.block _ (blk_lt h.graph)).trans h.graph, (HBv.out.block _ (blk_lt h.res)).trans h.res, grw h.bel HBv.out⟩
            have v0 : wv.cell? ⟨wr.heap.size, 0, none⟩ = some (.slice (A r) (L r) (C r)) := by rw [hwv]; exact (one_at (heap_alloc_new wr (.cells #[.slice (A r) (L r) (C r)] 61))).1
            have p0 : wv.cell? ⟨b + 1 + 1, r, none⟩ = some (.pointer (some ⟨b + 4 + 2 * r, 0, none⟩)) := HHv.out.row.cell hlt
            have hfill := fill_any (b + 4 + 2 * r) (b + 3 + 2 * r) r (A r) (L r) (C r) (RB r) (RO r) (K r) (X r) (some ⟨b + 1 + 1, 0, none⟩) (b + 2) c c (tT b) wv.drew (HS.out r hlt).1
              (HHv.out.empty r (Nat.le_refl _) hlt).1 (HHv.out.empty r (Nat.le_refl _) hlt).2 ((HTr.out.below HBv.out.drew).row r hlt) (HHv.out.tabs.below ((Below.refl _ _).drew)) (by omega)
              (show _ → _ from fun h => by have := World.block_lt_of_cell? _ _ ((HT.out.row r hlt).key 0 h).1; simp only at this; omega)
              (show _ → _ from fun _ => by omega) (show ∀ j, _ from fun j hj => by constructor <;> (try unfold tT) <;> (try intro) <;> omega)
            obtain ⟨vb, hvb⟩ : ∃ vb, wr.heap.size = vb := ⟨_, rfl⟩
            rw [hvb] at v0 hbv
            go_wp2
            rw [← hwv]
            clear hwv hvb t0
            have p0d : wv.drew.cell? ⟨b + 1 + 1, r, none⟩ = some (.pointer (some ⟨b + 4 + 2 * r, 0, none⟩)) := p0
            have v0d : wv.drew.cell? ⟨vb, 0, none⟩ = some (.slice (A r) (L r) (C r)) := v0
            have hn1 : ¬ (b + 1 + 1 = b + 4 + 2 * r ∨ b + 1 + 1 = b + 3 + 2 * r) := by omega
            have hn2 : ¬ (vb = b + 4 + 2 * r ∨ vb = b + 3 + 2 * r) := by omega
            go_region_held3 (fun w' => w'.cell? ⟨b + 1 + 1, r, none⟩ = some (.pointer (some ⟨b + 4 + 2 * r, 0, none⟩)) ∧ w'.cell? ⟨vb, 0, none⟩ = some (.slice (A r) (L r) (C r)))
              (first | with_reducible exact S3.out | exact ⟨p0, v0⟩)
              ((go_at_call 77; refine hfill.mono ?_; rintro e w3 ⟨⟨bb, rfl, hbb⟩, hO3, hF3⟩; have S3 : Hid (w3.cell? ⟨b + 1 + 1, r, none⟩ = some (.pointer (some ⟨b + 4 + 2 * r, 0, none⟩)) ∧ w3.cell? ⟨vb, 0, none⟩ = some (.slice (A r) (L r) (C r))) := show _ ∧ _ from ⟨hO3.cell (p := ⟨b + 1 + 1, r, none⟩) p0d hn1, hO3.cell (p := ⟨vb, 0, none⟩) v0d hn2⟩))
            clear hfill p0 v0 p0d v0d S3 hn1 hn2
            have HA3 : Hid (Ahead w w3 #[.int .i64 u.k, .int .i64 u.n, .string u.s, .int .i64 u.a, .slice (some ⟨TB, TO, none⟩) c cp]) := (show Ahead w wv.drew _ from HAv.out.below ((Below.refl _ _).drew)).only hO3 (fun k h => by omega)
            cases bb
            · have HN : Hid (¬ OkG c u L K X) := show ¬ OkG c u L K X from fun h => by have := hbb.2 (h.all r hlt); cases this
              clear hF3 hbb hO3
              have R0 : Hid (w3.heap[b + 1]? = some (.cells #[.nilIface, .slice none 0 0] 70 (0, 0))) := by rw [← hb]; exact HA3.out.res
              obtain ⟨r0, r1, rz⟩ := two_at R0.out
              go_wp2
              have R1 := two_put R0.out .nilIface (.slice none 0 0)
              obtain ⟨q0, q1, _⟩ := two_at R1
              refine bodyPost_ret (v := .tuple #[.agg #[.nilIface, .slice none 0 0], .bool false]) (by simp [results, Try.results47, go_sem, q0, q1]) rfl ⟨Or.inr ⟨HN.out, rfl⟩, ?_⟩
              exact (HA3.out.bel.setCell (by show w.heap.size ≤ b + 1; omega) _).setCell (by show w.heap.size ≤ b + 1; omega) _
            · have HF : Hid (Filled w3 (tT b r) (tM b r) wv.heap.size r (tT b) (K r) (X r) (L r)) := hF3 (hbb.1 rfl)
              have HH3 : Hid (Half w3 b c (r + 1) (fun j => if j = r then wv.heap.size else base j) L K X) := HHv.out.fill hlt (show Only _ wv w3 from ⟨hO3.os, hO3.tape, hO3.output, hO3.size, hO3.block⟩) HF.out
              have HQ3 : Hid (∀ q, q < r + 1 → OkT c (L q) (K q) (X q)) := show ∀ q, q < r + 1 → _ from fun q hq => by
                by_cases e : q = r
                · subst e; exact hbb.1 rfl
                · exact HQ.out q (by omega)
              have HP3 : Hid (Ap w3 b (r + 1) (tT b) (tM b)) := HPv.out.fill HHv.out hlt (show Only _ wv w3 from ⟨hO3.os, hO3.tape, hO3.output, hO3.size, hO3.block⟩) HF.out
              clear hF3 hbb hO3 HF HQ
              go_wp2
              go_roundw
              case rel => exact ⟨r + 1, _, by omega, by go_num, HH3, HQ3, HA3, HP3⟩
              case measure => simp [intOf]; omega
          · obtain rfl : r = c := by omega
            obtain ⟨g0, g1, g2, g3, g4, _⟩ := cells5 HAr2.out.graph
            rw [hb] at g0 g1 g2 g3 g4
            have hof := of_any u (some ⟨b + 1 + 1, 0, none⟩) (b + 2) r r (tT b) wr HHr.out.tabs
            obtain ⟨bu, hbu⟩ : ∃ x, isV r u = x := ⟨_, rfl⟩
            rw [hbu] at hof
            go_wp2_with fail
            refine hof.mono ?_
            clear hof
            rintro e w3 ⟨rfl, hb3⟩
            have HA3 : Hid (Ahead w w3 #[.int .i64 u.k, .int .i64 u.n, .string u.s, .int .i64 u.a, .slice ta r cp]) := HAr2.out.below hb3
            have HH3 : Hid (Half w3 b r r base L K X) := HHr.out.below hb3
            have HP3 : Hid (Ap w3 b r (tT b) (tM b)) := HPr.out.half HHr.out hb3
            clear hb3 HAr2 HHr g0 g1 g2 g3 g4
            have R0 : Hid (w3.heap[b + 1]? = some (.cells #[.nilIface, .slice none 0 0] 70 (0, 0))) := by rw [← hb]; exact HA3.out.res
            obtain ⟨r0, r1, rz⟩ := two_at R0.out
            cases bu
            · have HN : Hid (¬ OkG r u L K X) := show ¬ OkG r u L K X from fun h => by have := h.root; rw [hbu] at this; cases this
              clear hbu
              go_wp2
              have R1 := two_put R0.out .nilIface (.slice none 0 0)
              obtain ⟨q0, q1, _⟩ := two_at R1
              refine bodyPost_ret (v := .tuple #[.agg #[.nilIface, .slice none 0 0], .bool false]) (by simp [results, Try.results47, go_sem, q0, q1]) rfl ⟨Or.inr ⟨HN.out, rfl⟩, ?_⟩
              exact (HA3.out.bel.setCell (by show w.heap.size ≤ b + 1; omega) _).setCell (by show w.heap.size ≤ b + 1; omega) _
            · have HG : Hid (OkG r u L K X) := show OkG r u L K X from ⟨h200, hbu, HQ.out⟩
              obtain ⟨xt, xy, hxv⟩ := ifv_form (tT b) u
              have HXV : Hid (ifv (tT b) u = .iface xt xy) := hxv
              rw [if_pos rfl, HXV.out]
              clear hxv
              clear hbu
              go_wp2
              have R1 := two_put R0.out (.iface xt xy) (.slice (some ⟨b + 1 + 1, 0, none⟩) r r)
              obtain ⟨q0, q1, _⟩ := two_at R1
              refine bodyPost_ret (v := .tuple #[.agg #[.iface xt xy, .slice (some ⟨b + 1 + 1, 0, none⟩) r r], .bool true]) (by simp [results, Try.results47, go_sem, q0, q1]) rfl ⟨Or.inl ⟨HG.out, ?_, ⟨base, ?_⟩, ?_⟩, ?_⟩
              · rw [hb, HXV.out]
              · rw [hb]
                have h := HH3.out
                have k1 : ∀ k, k ≠ b + 1 → (((w3.setCell ⟨b + 1, 0, none⟩ (.iface xt xy)).setCell ⟨b + 1, 1, none⟩ (.slice (some ⟨b + 1 + 1, 0, none⟩) r r))).heap[k]? = w3.heap[k]? := fun k hk => by
                  rw [Below.heap_setCell _ _ _ _ (show k ≠ b + 1 from hk), Below.heap_setCell _ _ _ _ (show k ≠ b + 1 from hk)]
                have ho : Only (fun k => k = b + 1) w3 (((w3.setCell ⟨b + 1, 0, none⟩ (.iface xt xy)).setCell ⟨b + 1, 1, none⟩ (.slice (some ⟨b + 1 + 1, 0, none⟩) r r))) := ⟨rfl, rfl, rfl, by simp [World.setCell], fun k _ hk => k1 k hk⟩
                refine ⟨h.row.of_block (k1 _ (by omega)), fun j hj => ⟨(h.full j hj).1.only ho (by unfold tT; omega) (by unfold tM; omega) (fun g hg => by have := (h.full j hj).2; omega), (h.full j hj).2⟩, fun j h1 h2 => by omega, ?_⟩
                have := h.size
                simp [World.setCell]
                omega
              · rw [hb]
                exact HP3.out.same (fun j hj => by
                  rw [Below.heap_setCell _ _ _ _ (show tT b j ≠ b + 1 by unfold tT; omega), Below.heap_setCell _ _ _ _ (show tT b j ≠ b + 1 by unfold tT; omega)])
              · exact (HA3.out.bel.setCell (by show w.heap.size ≤ b + 1; omega) _).setCell (by show w.heap.size ≤ b + 1; omega) _
  · have HN : Hid (¬ OkG n u L K X) := show ¬ OkG n u L K X from fun h => h200 h.len
    have hgt : 200 < n := by omega
    have R0 : Hid (wa.heap[b + 1]? = some (.cells #[.nilIface, .slice none 0 0] 70 (0, 0))) := by rw [← hb]; exact HA.out.res
    obtain ⟨r0, r1, rz⟩ := two_at R0.out
    rw [hb] at g0 g1 g2 g3 g4
    go_enter Try.func47, Try.ntmps47
    go_wp2
    rw [← hwa]
    refine bodyPost_ret (v := .tuple #[.agg #[.nilIface, .slice none 0 0], .bool false]) (by simp [results, Try.results47, go_sem, r0, r1]) rfl ⟨Or.inr ⟨HN.out, rfl⟩, HA.out.bel⟩

end Go.Proofs.Ytgflalfiopnmnab

namespace Go.Proofs.Ytgflalfiopnmnab
open Go.RowKit Vl

theorem nanI_any (a : Int) (w : World) : Calls Try.prog 80 #[.int .i64 a] w fun e w' => e = .returned (.bool false) ∧ w' = w := by
  go_enter Try.func80, Try.ntmps80
  go_wp2
  go_ret
  exact ⟨by simp, rfl⟩
theorem nanL_any (a : Int) (w : World) : Calls Try.prog 81 #[.int .i64 a] w fun e w' => e = .returned (.bool false) ∧ w' = w := by
  go_enter Try.func81, Try.ntmps81
  go_wp2
  go_ret
  exact ⟨by simp, rfl⟩
theorem nanS_any (a : ByteArray) (w : World) : Calls Try.prog 82 #[.string a] w fun e w' => e = .returned (.bool false) ∧ w' = w := by
  go_enter Try.func82, Try.ntmps82
  go_wp2
  go_ret
  exact ⟨by simp, rfl⟩

theorem cmpI_any (a b : Int) (w : World) : Calls Try.prog 52 #[.int .i64 a, .int .i64 b] w fun e w' => e = .returned (.int .i64 (cmpI a b)) ∧ w' = w := by
  unfold cmpI
  by_cases h1 : a < b
  · rw [if_pos h1]
    go_enter Try.func52, Try.ntmps52
    go_wp2_with (go_at_call 80; refine (nanI_any _ _).mono ?_; rintro e w' ⟨rfl, rfl⟩)
    go_ret
    exact ⟨rfl, rfl⟩
  · rw [if_neg h1]
    by_cases h2 : b < a
    · rw [if_pos h2]
      go_enter Try.func52, Try.ntmps52
      go_wp2_with (go_at_call 80; refine (nanI_any _ _).mono ?_; rintro e w' ⟨rfl, rfl⟩)
      go_ret
      exact ⟨rfl, rfl⟩
    · rw [if_neg h2]
      go_enter Try.func52, Try.ntmps52
      go_wp2_with (go_at_call 80; refine (nanI_any _ _).mono ?_; rintro e w' ⟨rfl, rfl⟩)
      go_ret
      exact ⟨rfl, rfl⟩

theorem cmpL_any (a b : Int) (w : World) : Calls Try.prog 53 #[.int .i64 a, .int .i64 b] w fun e w' => e = .returned (.int .i64 (cmpI a b)) ∧ w' = w := by
  unfold cmpI
  by_cases h1 : a < b
  · rw [if_pos h1]
    go_enter Try.func53, Try.ntmps53
    go_wp2_with (go_at_call 81; refine (nanL_any _ _).mono ?_; rintro e w' ⟨rfl, rfl⟩)
    go_ret
    exact ⟨rfl, rfl⟩
  · rw [if_neg h1]
    by_cases h2 : b < a
    · rw [if_pos h2]
      go_enter Try.func53, Try.ntmps53
      go_wp2_with (go_at_call 81; refine (nanL_any _ _).mono ?_; rintro e w' ⟨rfl, rfl⟩)
      go_ret
      exact ⟨rfl, rfl⟩
    · rw [if_neg h2]
      go_enter Try.func53, Try.ntmps53
      go_wp2_with (go_at_call 81; refine (nanL_any _ _).mono ?_; rintro e w' ⟨rfl, rfl⟩)
      go_ret
      exact ⟨rfl, rfl⟩

theorem cmpS_any (a b : ByteArray) (w : World) : Calls Try.prog 54 #[.string a, .string b] w fun e w' => e = .returned (.int .i64 (cmpS a b)) ∧ w' = w := by
  unfold cmpS
  obtain ⟨b1, h1⟩ : ∃ x, Op.bytesLess a.toList b.toList = x := ⟨_, rfl⟩
  obtain ⟨b2, h2⟩ : ∃ x, (a.toList == b.toList) = x := ⟨_, rfl⟩
  rw [h2, h1]
  cases b1 <;> cases b2
  all_goals
    go_enter Try.func54, Try.ntmps54
    go_wp2_with (go_at_call 82; refine (nanS_any _ _).mono ?_; rintro e w' ⟨rfl, rfl⟩)
    go_ret
    exact ⟨rfl, rfl⟩

def or3 (a b c : Int) (j : Nat) : Int := if j = 0 then a else if j = 1 then b else c

theorem or_any (a b c : Int) (B : Nat) (w : World) (h0 : w.cell? ⟨B, 0, none⟩ = some (.int .i64 a)) (h1 : w.cell? ⟨B, 1, none⟩ = some (.int .i64 b)) (h2 : w.cell? ⟨B, 2, none⟩ = some (.int .i64 c)) :
    Calls Try.prog 51 #[.slice (some ⟨B, 0, none⟩) 3 3] w fun e w' => e = .returned (.int .i64 (orI a b c)) ∧ w' = w := by
  have H : Hid (∀ j, j < 3 → w.cell? ⟨B, j, none⟩ = some (.int .i64 (or3 a b c j))) := show ∀ j, j < 3 → _ from fun j hj => by
    rcases (by omega : j = 0 ∨ j = 1 ∨ j = 2) with rfl | rfl | rfl
    · exact h0
    · exact h1
    · exact h2
  obtain ⟨r, HR⟩ : ∃ r, Hid (orI a b c = r) := ⟨_, rfl⟩
  rw [HR.out]
  clear h0 h1 h2
  go_enter Try.func51, Try.ntmps51
  go_wp2
  go_loop [8] (fun i => ∃ k : Nat, k ≤ 3 ∧ i = .int .i64 k ∧ Hid (∀ j, j < k → or3 a b c j = 0)) (fun i => 3 - (intOf i).toNat)
  case atStart => exact ⟨0, by omega, rfl, fun j hj => absurd hj (Nat.not_lt_zero _)⟩
  case round =>
    obtain ⟨k, hk, rfl, HZ⟩ := hrel
    by_cases hlt : k < 3
    · have hc := H.out k hlt
      obtain ⟨x, HX⟩ : ∃ x, Hid (or3 a b c k = x) := ⟨_, rfl⟩
      rw [HX.out] at hc
      by_cases hx : x = 0
      · subst hx
        have HZ' : Hid (∀ j, j < k + 1 → or3 a b c j = 0) := show ∀ j, j < k + 1 → or3 a b c j = 0 from fun j hj => by
          by_cases e : j = k
          · subst e; exact HX.out
          · exact HZ.out j (by omega)
        clear HZ HX
        go_wp2
        go_round
        case rel => exact ⟨k + 1, by omega, by go_num, HZ'⟩
        case measure => simp [intOf]; omega
      · have hr : Hid (x = r) := by
          rw [← HX.out, ← HR.out]
          have z := HZ.out
          rcases (by omega : k = 0 ∨ k = 1 ∨ k = 2) with rfl | rfl | rfl
          · have : a ≠ 0 := by rw [← HX.out] at hx; exact hx
            show or3 a b c 0 = orI a b c
            simp [orI, or3, this]
          · have e0 : a = 0 := z 0 (by omega)
            have : b ≠ 0 := by rw [← HX.out] at hx; exact hx
            show or3 a b c 1 = orI a b c
            simp [orI, or3, this, e0]
          · have e0 : a = 0 := z 0 (by omega)
            have e1 : b = 0 := z 1 (by omega)
            show or3 a b c 2 = orI a b c
            simp [orI, or3, e0, e1]
        have hne : (x != 0) = true := by simpa using hx
        clear HZ HX hx
        go_wp2
        go_ret
        exact ⟨by rw [← hr.out]; rfl, rfl⟩
    · have hr : Hid (0 = r) := by
        rw [← HR.out]
        have z := HZ.out
        have e0 : a = 0 := z 0 (by omega)
        have e1 : b = 0 := z 1 (by omega)
        have e2 : c = 0 := z 2 (by omega)
        show 0 = orI a b c
        simp [orI, e0, e1, e2]
      clear HZ
      go_wp2
      go_ret
      exact ⟨by rw [← hr.out]; rfl, rfl⟩

end Go.Proofs.Ytgflalfiopnmnab

namespace Go.Proofs.Ytgflalfiopnmnab
open Go.RowKit Vl

set_option maxHeartbeats 1000000 in
set_option maxRecDepth 100000 in
/-- 'impl.KeyOrder'. -/
theorem implKo_any (u v : V) (w : World) :
    Calls Try.prog 19 #[.agg #[.int .i64 u.k, .int .i64 u.n, .string u.s, .int .i64 u.a], .agg #[.int .i64 v.k, .int .i64 v.n, .string v.s, .int .i64 v.a]] w fun e w' => e = .returned (.int .i64 (ko u v)) ∧ Below w.heap.size w w' := by
  have hb0 : Hid _ := boxes w u v
  by_cases h1 : isK u = true
  · by_cases h2 : isK v = true
    · have HK : Hid (orI (cmpI u.k v.k) (cmpI u.n v.n) (cmpS u.s v.s) = ko u v) := ko_eq h1 h2
      rw [← HK.out]
      go_enter Try.func19, Try.ntmps19
      go_wp2_with fail
      refine (isKey_any u _).mono ?_
      rintro e w1 ⟨rfl, hb1⟩
      rw [h1]
      have hv1 : ValAt w1 (w.heap.size + 1) 0 v.k v.n v.s v.a := by
        have := (ValAt.new (w.alloc (Obj.cells #[.int .i64 u.k, .int .i64 u.n, .string u.s, .int .i64 u.a] 29)) v.k v.n v.s v.a).below hb1
        simpa using this
      have hu1 : ValAt w1 w.heap.size 0 u.k u.n u.s u.a := ((ValAt.new w u.k u.n u.s u.a).below ((Below.refl _ _).alloc (Nat.le_refl _) _)).below hb1
      have hB1 : Hid (Below w.heap.size w w1) := grw hb0.out hb1
      clear hb1
      have d0 := hv1.1; have d1 := hv1.2.1; have d2 := hv1.2.2.1; have d3 := hv1.2.2.2
      simp only [Nat.zero_add] at d1 d2 d3
      go_wp2_with fail
      refine (isKey_any v _).mono ?_
      rintro e w2 ⟨rfl, hb2⟩
      rw [h2]
      have hv2 := hv1.below hb2
      have hu2 := hu1.below hb2
      have hB2 : Hid (Below w.heap.size w w2) := grw hB1.out hb2
      clear d0 d1 d2 d3 hv1 hu1 hB1 hb2 hb0 HK h1 h2
      have d0 := hv2.1; have d1 := hv2.2.1; have d2 := hv2.2.2.1; have d3 := hv2.2.2.2
      have c0 := hu2.1; have c1 := hu2.2.1; have c2 := hu2.2.2.1; have c3 := hu2.2.2.2
      simp only [Nat.zero_add] at d1 d2 d3 c1 c2 c3
      clear hv2 hu2
      have hl : w.heap.size < w2.heap.size := World.block_lt_of_cell? _ _ c0
      have hl' : w.heap.size + 1 < w2.heap.size := World.block_lt_of_cell? _ _ d0
      go_wp2
      go_region_held3 (fun w' => w'.cell? ⟨w.heap.size, 0, none⟩ = some (.int .i64 u.k) ∧ w'.cell? ⟨w.heap.size, 1, none⟩ = some (.int .i64 u.n) ∧ w'.cell? ⟨w.heap.size, 2, none⟩ = some (.string u.s) ∧ w'.cell? ⟨w.heap.size + 1, 0, none⟩ = some (.int .i64 v.k) ∧ w'.cell? ⟨w.heap.size + 1, 1, none⟩ = some (.int .i64 v.n) ∧ w'.cell? ⟨w.heap.size + 1, 2, none⟩ = some (.string v.s))
        (first | exact ⟨c0, c1, c2, d0, d1, d2⟩ | go_keep)
        (first
          | (go_at_call 52; refine (cmpI_any _ _ _).mono ?_; rintro e w' ⟨rfl, rfl⟩)
          | (go_at_call 53; refine (cmpL_any _ _ _).mono ?_; rintro e w' ⟨rfl, rfl⟩)
          | (go_at_call 54; refine (cmpS_any _ _ _).mono ?_; rintro e w' ⟨rfl, rfl⟩)
          | (go_at_call 51; refine (or_any _ _ _ _ _ (World.cell?_alloc_new _ _ _ _) (World.cell?_alloc_new _ _ _ _) (World.cell?_alloc_new _ _ _ _)).mono ?_; rintro e w' ⟨rfl, rfl⟩))
      go_wp2
      go_ret
      exact ⟨rfl, (hB2.out.alloc (Nat.le_of_lt hl) _).drew⟩
    · have h2' : isK v = false := by simpa using h2
      have HK : Hid (ko u v = 2) := show ko u v = 2 by unfold ko; rw [h2', Bool.and_false, if_neg (by simp)]
      rw [HK.out]
      go_enter Try.func19, Try.ntmps19
      go_wp2_with fail
      refine (isKey_any u _).mono ?_
      rintro e w1 ⟨rfl, hb1⟩
      rw [h1]
      have hv1 : ValAt w1 (w.heap.size + 1) 0 v.k v.n v.s v.a := by
        have := (ValAt.new (w.alloc (Obj.cells #[.int .i64 u.k, .int .i64 u.n, .string u.s, .int .i64 u.a] 29)) v.k v.n v.s v.a).below hb1
        simpa using this
      have hB1 : Hid (Below w.heap.size w w1) := grw hb0.out hb1
      clear hb1
      have d0 := hv1.1; have d1 := hv1.2.1; have d2 := hv1.2.2.1; have d3 := hv1.2.2.2
      simp only [Nat.zero_add] at d1 d2 d3
      go_wp2_with fail
      refine (isKey_any v _).mono ?_
      rintro e w2 ⟨rfl, hb2⟩
      rw [h2']
      go_wp2
      go_ret
      exact ⟨rfl, grw hB1.out hb2⟩
  · have h1' : isK u = false := by simpa using h1
    have HK : Hid (ko u v = 2) := show ko u v = 2 by unfold ko; rw [h1', Bool.false_and, if_neg (by simp)]
    rw [HK.out]
    go_enter Try.func19, Try.ntmps19
    go_wp2_with fail
    refine (isKey_any u _).mono ?_
    rintro e w1 ⟨rfl, hb1⟩
    rw [h1']
    go_wp2
    go_ret
    exact ⟨rfl, grw hb0.out hb1⟩

end Go.Proofs.Ytgflalfiopnmnab

namespace Go.Proofs.Ytgflalfiopnmnab.Dr
open Go.RowKit Vl Go.Proofs.Ytgflalfiopnmnab Go.Sort

/-- What lay there lies there, and no draw is taken back. -/
structure Below (B : Nat) (w w' : World) : Prop where
  b : Go.RowKit.Below B w w'
  d : w.drawn ≤ w'.drawn
theorem Below.refl (B : Nat) (w : World) : Below B w w := ⟨Go.RowKit.Below.refl _ _, Nat.le_refl _⟩
theorem Below.trans {B : Nat} {a b c : World} (h : Below B a b) (k : Below B b c) : Below B a c := ⟨h.b.trans k.b, Nat.le_trans h.d k.d⟩
theorem Below.mono {B B' : Nat} {w w' : World} (h : Below B w w') (hB : B' ≤ B) : Below B' w w' := ⟨h.b.mono hB, h.d⟩
theorem Below.drew {B : Nat} {a w : World} (h : Below B a w) : Below B a w.drew := ⟨h.b.drew, Nat.le_succ_of_le h.d⟩
theorem Below.alloc {B : Nat} {a w : World} (h : Below B a w) (hB : B ≤ w.heap.size) (o : Obj) : Below B a (w.alloc o) := ⟨h.b.alloc hB o, h.d⟩
theorem Below.cell {B : Nat} {w w' : World} (h : Below B w w') {p : Addr} (hp : p.block < B) : w'.cell? p = w.cell? p := h.b.cell hp
theorem Below.size {B : Nat} {w w' : World} (h : Below B w w') : w.heap.size ≤ w'.heap.size := h.b.size
theorem below_drewN {B : Nat} {a w : World} (h : Below B a w) (n : Nat) : Below B a (w.drewN n) := ⟨Go.RowKit.Below.trans h.b ⟨rfl, rfl, rfl, Nat.le_refl _, fun _ _ => rfl⟩, Nat.le_trans h.d (Nat.le_add_right _ _)⟩

theorem grw {a b c : World} (h : Below a.heap.size a b) (k : Below b.heap.size b c) : Below a.heap.size a c := h.trans (k.mono h.size)

/-- What a value of an interface says of itself: nothing. -/
theorem asNil_any (w : World) :
    Calls Try.prog 152 #[.agg #[]] w fun e w' => e = .returned (.agg #[.int .i64 0, .int .i64 0, .string ⟨#[]⟩, .int .i64 0]) ∧ Below w.heap.size w w' := by
  go_enter Try.func152, Try.ntmps152
  go_wp2
  refine bodyPost_ret (v := .agg #[.int .i64 0, .int .i64 0, .string ⟨#[]⟩, .int .i64 0]) (by simp [results, Try.results152, go_sem]) rfl ⟨rfl, ?_⟩
  exact ((Below.refl _ _).alloc (Nat.le_refl _) _).alloc (by simp) _

theorem asBool_any (b : Bool) (w : World) :
    Calls Try.prog 149 #[.agg #[.bool b]] w fun e w' => e = .returned (.agg #[.int .i64 1, .int .i64 (if b then 1 else 0), .string ⟨#[]⟩, .int .i64 0]) ∧ Below w.heap.size w w' := by
  cases b
  all_goals
    go_enter Try.func149, Try.ntmps149
    go_wp2
  · refine bodyPost_ret (v := .agg #[.int .i64 1, .int .i64 0, .string ⟨#[]⟩, .int .i64 0]) (by simp [results, Try.results149, go_sem]) rfl ⟨rfl, ?_⟩
    exact ((Below.refl _ _).alloc (Nat.le_refl _) _).alloc (by simp) _
  · refine bodyPost_ret (v := .agg #[.int .i64 1, .int .i64 1, .string ⟨#[]⟩, .int .i64 0]) (by simp [results, Try.results149, go_sem]) rfl ⟨rfl, ?_⟩
    exact ((Below.refl _ _).alloc (Nat.le_refl _) _).alloc (by simp) _

theorem asInt_any (n : Int) (w : World) :
    Calls Try.prog 150 #[.agg #[.int .i64 n]] w fun e w' => e = .returned (.agg #[.int .i64 2, .int .i64 n, .string ⟨#[]⟩, .int .i64 0]) ∧ Below w.heap.size w w' := by
  go_enter Try.func150, Try.ntmps150
  go_wp2
  refine bodyPost_ret (v := .agg #[.int .i64 2, .int .i64 n, .string ⟨#[]⟩, .int .i64 0]) (by simp [results, Try.results150, go_sem]) rfl ⟨rfl, ?_⟩
  exact ((Below.refl _ _).alloc (Nat.le_refl _) _).alloc (by simp) _

theorem asText_any (s : ByteArray) (w : World) :
    Calls Try.prog 151 #[.agg #[.string s]] w fun e w' => e = .returned (.agg #[.int .i64 3, .int .i64 0, .string s, .int .i64 0]) ∧ Below w.heap.size w w' := by
  go_enter Try.func151, Try.ntmps151
  go_wp2
  refine bodyPost_ret (v := .agg #[.int .i64 3, .int .i64 0, .string s, .int .i64 0]) (by simp [results, Try.results151, go_sem]) rfl ⟨rfl, ?_⟩
  exact ((Below.refl _ _).alloc (Nat.le_refl _) _).alloc (by simp) _

theorem asTab_any (b : Nat) (i : Int) (w : World) (h : w.cell? ⟨b, 0, none⟩ = some (.int .i64 i)) :
    Calls Try.prog 148 #[.pointer (some ⟨b, 0, none⟩)] w fun e w' => e = .returned (.agg #[.int .i64 4, .int .i64 0, .string ⟨#[]⟩, .int .i64 i]) ∧ Below w.heap.size w w' := by
  have hlt : b < w.heap.size := World.block_lt_of_cell? _ _ h
  go_enter Try.func148, Try.ntmps148
  go_wp2
  refine bodyPost_ret (v := .agg #[.int .i64 4, .int .i64 0, .string ⟨#[]⟩, .int .i64 i]) (by simp [results, Try.results148, go_sem]) rfl ⟨rfl, ?_⟩
  exact (Below.refl _ _).alloc (Nat.le_refl _) _

/-- Tables that stand in a row: number i lies at T i and says so. -/
structure Tabs (w : World) (ta : Option Addr) (tb n : Nat) (T : Nat → Nat) : Prop where
  top : 0 < n → ta = some ⟨tb, 0, none⟩
  ptr : ∀ i, i < n → w.cell? ⟨tb, i, none⟩ = some (.pointer (some ⟨T i, 0, none⟩))
  at_ : ∀ i, i < n → w.cell? ⟨T i, 0, none⟩ = some (.int .i64 i)

theorem Tabs.below {w w' : World} {ta : Option Addr} {tb n : Nat} {T : Nat → Nat} (h : Tabs w ta tb n T) (hb : Below w.heap.size w w') : Tabs w' ta tb n T :=
  ⟨h.top, fun i hi => (hb.cell (p := ⟨tb, i, none⟩) (World.block_lt_of_cell? _ _ (h.ptr i hi))).trans (h.ptr i hi),
   fun i hi => (hb.cell (p := ⟨T i, 0, none⟩) (World.block_lt_of_cell? _ _ (h.at_ i hi))).trans (h.at_ i hi)⟩

theorem Tabs.nil (w : World) : Tabs w none 0 0 (fun _ => 0) := ⟨fun h => by omega, fun i h => by omega, fun i h => by omega⟩

/-- A value as it is held. -/
def ifv (T : Nat → Nat) (v : V) : Value :=
  if v.k = 0 then .iface 152 (.agg #[])
  else if v.k = 1 then .iface 132 (.agg #[.bool (v.n == 1)])
  else if v.k = 2 then .iface 134 (.agg #[.int .i64 v.n])
  else if v.k = 3 then .iface 136 (.agg #[.string v.s])
  else .iface 92 (.pointer (some ⟨T v.a.toNat, 0, none⟩))

theorem nf_0 (n : Int) (s : ByteArray) (a : Int) (ta : Option Addr) (m cp : Nat) (w : World) :
    Calls Try.prog 102 #[.agg #[.int .i64 0, .int .i64 n, .string s, .int .i64 a], .slice ta m cp] w fun e w' => e = .returned (.tuple #[.iface 152 (.agg #[]), .bool true]) ∧ Below w.heap.size w w' := by
  go_enter Try.func102, Try.ntmps102
  go_wp2
  go_ret2
  exact ⟨rfl, (Below.refl _ _).alloc (Nat.le_refl _) _⟩

theorem nf_1 (n : Int) (s : ByteArray) (a : Int) (ta : Option Addr) (m cp : Nat) (w : World) :
    Calls Try.prog 102 #[.agg #[.int .i64 1, .int .i64 n, .string s, .int .i64 a], .slice ta m cp] w fun e w' => e = .returned (.tuple #[.iface 132 (.agg #[.bool (n == 1)]), .bool true]) ∧ Below w.heap.size w w' := by
  go_enter Try.func102, Try.ntmps102
  go_wp2
  go_ret2
  exact ⟨rfl, (Below.refl _ _).alloc (Nat.le_refl _) _⟩

theorem nf_2 (n : Int) (s : ByteArray) (a : Int) (ta : Option Addr) (m cp : Nat) (w : World) :
    Calls Try.prog 102 #[.agg #[.int .i64 2, .int .i64 n, .string s, .int .i64 a], .slice ta m cp] w fun e w' => e = .returned (.tuple #[.iface 134 (.agg #[.int .i64 n]), .bool true]) ∧ Below w.heap.size w w' := by
  go_enter Try.func102, Try.ntmps102
  go_wp2
  go_ret2
  exact ⟨rfl, (Below.refl _ _).alloc (Nat.le_refl _) _⟩

theorem nf_3 (n : Int) (s : ByteArray) (a : Int) (ta : Option Addr) (m cp : Nat) (w : World) :
    Calls Try.prog 102 #[.agg #[.int .i64 3, .int .i64 n, .string s, .int .i64 a], .slice ta m cp] w fun e w' => e = .returned (.tuple #[.iface 136 (.agg #[.string s]), .bool (decide ((s.size : Int) ≤ 500))]) ∧ Below w.heap.size w w' := by
  go_enter Try.func102, Try.ntmps102
  go_wp2
  go_quiet (fail)
  go_wp2
  go_ret2
  exact ⟨rfl, below_drewN ((Below.refl _ _).alloc (Nat.le_refl _) _) nq⟩

theorem nf_4 (n : Int) (s : ByteArray) (a : Int) (ta : Option Addr) (tb m cp : Nat) (T : Nat → Nat) (w : World) (h0 : 0 ≤ a) (h1 : a < m) (H : Hid (Tabs w ta tb m T)) :
    Calls Try.prog 102 #[.agg #[.int .i64 4, .int .i64 n, .string s, .int .i64 a], .slice ta m cp] w fun e w' => e = .returned (.tuple #[.iface 92 (.pointer (some ⟨T a.toNat, 0, none⟩)), .bool true]) ∧ Below w.heap.size w w' := by
  obtain ⟨j, rfl⟩ : ∃ j : Nat, a = j := ⟨a.toNat, by omega⟩
  obtain rfl := H.out.top (by omega)
  have hp := H.out.ptr j (by omega)
  have hlt : tb < w.heap.size := World.block_lt_of_cell? _ _ hp
  go_enter Try.func102, Try.ntmps102
  go_wp2
  go_ret2
  exact ⟨rfl, (Below.refl _ _).alloc (Nat.le_refl _) _⟩

theorem nf_4no (n : Int) (s : ByteArray) (a : Int) (ta : Option Addr) (m cp : Nat) (w : World) (h : ¬ (0 ≤ a ∧ a < m)) :
    Calls Try.prog 102 #[.agg #[.int .i64 4, .int .i64 n, .string s, .int .i64 a], .slice ta m cp] w fun e w' => e = .returned (.tuple #[.nilIface, .bool false]) ∧ Below w.heap.size w w' := by
  by_cases h0 : 0 ≤ a
  · have h1 : ¬ a < m := fun h1 => h ⟨h0, h1⟩
    go_enter Try.func102, Try.ntmps102
    go_wp2
    go_ret2
    exact ⟨rfl, (Below.refl _ _).alloc (Nat.le_refl _) _⟩
  · go_enter Try.func102, Try.ntmps102
    go_wp2
    go_ret2
    exact ⟨rfl, (Below.refl _ _).alloc (Nat.le_refl _) _⟩

theorem nf_no (k n : Int) (s : ByteArray) (a : Int) (ta : Option Addr) (m cp : Nat) (w : World) (h0 : (k == 0) = false) (h1 : (k == 1) = false) (h2 : (k == 2) = false) (h3 : (k == 3) = false) (h4 : (k == 4) = false) :
    Calls Try.prog 102 #[.agg #[.int .i64 k, .int .i64 n, .string s, .int .i64 a], .slice ta m cp] w fun e w' => e = .returned (.tuple #[.nilIface, .bool false]) ∧ Below w.heap.size w w' := by
  go_enter Try.func102, Try.ntmps102
  go_wp2
  go_ret2
  exact ⟨rfl, (Below.refl _ _).alloc (Nat.le_refl _) _⟩

/-- The four cells of a value. -/
def ValAt (w : World) (b o : Nat) (k n : Int) (s : ByteArray) (a : Int) : Prop :=
  w.cell? ⟨b, o, none⟩ = some (.int .i64 k) ∧ w.cell? ⟨b, o + 1, none⟩ = some (.int .i64 n) ∧ w.cell? ⟨b, o + 2, none⟩ = some (.string s) ∧ w.cell? ⟨b, o + 3, none⟩ = some (.int .i64 a)

theorem ValAt.below {w w' : World} {b o : Nat} {k n : Int} {s : ByteArray} {a : Int} (h : ValAt w b o k n s a) (hb : Below w.heap.size w w') : ValAt w' b o k n s a := by
  have hlt : b < w.heap.size := World.block_lt_of_cell? _ _ h.1
  exact ⟨(hb.cell hlt).trans h.1, (hb.cell hlt).trans h.2.1, (hb.cell hlt).trans h.2.2.1, (hb.cell hlt).trans h.2.2.2⟩

theorem ValAt.new (w : World) (k n : Int) (s : ByteArray) (a : Int) : ValAt (w.alloc (Obj.cells #[.int .i64 k, .int .i64 n, .string s, .int .i64 a] 29)) w.heap.size 0 k n s a := by
  refine ⟨?_, ?_, ?_, ?_⟩ <;> simp [World.cell?_alloc_new]

theorem neq_val (k n : Int) (s : ByteArray) (a : Int) (k' n' : Int) (s' : ByteArray) (a' : Int) (w : World) :
    (binOp .neq 29 (.agg #[.int .i64 k', .int .i64 n', .string s', .int .i64 a']) (.agg #[.int .i64 k, .int .i64 n, .string s, .int .i64 a])).run Try.prog w = .ok (.bool (!(k' == k && (n' == n && (s'.toList == s.toList && a' == a))))) w := by
  go_simp
  by_cases h1 : k' = k <;> by_cases h2 : n' = n <;> by_cases h3 : s'.toList = s.toList <;> by_cases h4 : a' = a <;> simp [h1, h2, h3, h4]

set_option maxHeartbeats 1000000 in
set_option maxRecDepth 100000 in
theorem of_yes (k n : Int) (s : ByteArray) (a : Int) (k' n' : Int) (s' : ByteArray) (a' : Int) (t : TypeId) (x : Value) (F : Nat) (ta : Option Addr) (m cp : Nat) (w : World)
    (hnf : ∀ w0, Below w.heap.size w w0 → Calls Try.prog 102 #[.agg #[.int .i64 k, .int .i64 n, .string s, .int .i64 a], .slice ta m cp] w0 fun e w' => e = .returned (.tuple #[.iface t x, .bool true]) ∧ Below w0.heap.size w0 w')
    (hm : ∀ w f, (method (f + 3) t x "loop.example/cloth/impl.asVal").run Try.prog w = .ok (F, x) w)
    (hf : ∀ args w, (callFunc F args).run Try.prog w = .ok (.enter F args) w)
    (hcall : ∀ w0, Below w.heap.size w w0 → Calls Try.prog F #[x] w0 fun e w' => e = .returned (.agg #[.int .i64 k', .int .i64 n', .string s', .int .i64 a']) ∧ Below w0.heap.size w0 w')
    (b : Bool) (hb : (k' == k && (n' == n && (s'.toList == s.toList && a' == a))) = b) :
    Calls Try.prog 78 #[.agg #[.int .i64 k, .int .i64 n, .string s, .int .i64 a], .slice ta m cp] w fun e w' => e = .returned (.tuple #[if b then .iface t x else .nilIface, .bool b]) ∧ Below w.heap.size w w' := by
  have hne := neq_val k n s a k' n' s' a'
  rw [hb] at hne
  have hb0 : Below w.heap.size w (w.alloc (Obj.cells #[.int .i64 k, .int .i64 n, .string s, .int .i64 a] 29)) := (Below.refl _ _).alloc (Nat.le_refl _) _
  go_enter Try.func78, Try.ntmps78
  go_wp2_with fail
  refine (hnf _ hb0).mono ?_
  rintro e w1 ⟨rfl, hb1⟩
  have hv := (ValAt.new w k n s a).below hb1
  have hB1 : Hid (Below w.heap.size w w1) := grw hb0 hb1
  have c0 := hv.1; have c1 := hv.2.1; have c2 := hv.2.2.1; have c3 := hv.2.2.2
  simp only [Nat.zero_add] at c1 c2 c3
  clear hnf hb0
  go_wp2
  go_region_held3 (fun w' => w'.cell? ⟨w.heap.size, 0, none⟩ = some (.int .i64 k) ∧ w'.cell? ⟨w.heap.size, 1, none⟩ = some (.int .i64 n) ∧ w'.cell? ⟨w.heap.size, 2, none⟩ = some (.string s) ∧ w'.cell? ⟨w.heap.size, 3, none⟩ = some (.int .i64 a)) 
    (first | exact ⟨c0, c1, c2, c3⟩ | exact (ValAt.below (w := w1.drew) ⟨c0, c1, c2, c3⟩ hb2))
    ((refine (hcall _ hB1.out.drew).mono ?_; rintro e w2 ⟨rfl, hb2⟩))
  clear hne hb hm hcall hf
  have hB2 : Hid (Below w.heap.size w w2) := grw hB1.out.drew hb2
  cases b
  · go_wp2
    go_ret2
    exact ⟨rfl, hB2.out⟩
  · go_wp2
    go_ret2
    exact ⟨rfl, hB2.out⟩

theorem of_no (k n : Int) (s : ByteArray) (a : Int) (x : Value) (ta : Option Addr) (m cp : Nat) (w : World)
    (hnf : ∀ w0, Below w.heap.size w w0 → Calls Try.prog 102 #[.agg #[.int .i64 k, .int .i64 n, .string s, .int .i64 a], .slice ta m cp] w0 fun e w' => e = .returned (.tuple #[x, .bool false]) ∧ Below w0.heap.size w0 w') :
    Calls Try.prog 78 #[.agg #[.int .i64 k, .int .i64 n, .string s, .int .i64 a], .slice ta m cp] w fun e w' => e = .returned (.tuple #[.nilIface, .bool false]) ∧ Below w.heap.size w w' := by
  have hb0 : Below w.heap.size w (w.alloc (Obj.cells #[.int .i64 k, .int .i64 n, .string s, .int .i64 a] 29)) := (Below.refl _ _).alloc (Nat.le_refl _) _
  go_enter Try.func78, Try.ntmps78
  go_wp2_with fail
  refine (hnf _ hb0).mono ?_
  rintro e w1 ⟨rfl, hb1⟩
  have hB1 : Hid (Below w.heap.size w w1) := grw hb0 hb1
  clear hnf hb0 hb1
  go_wp2
  go_quiet (fail)
  go_wp2
  go_ret2
  exact ⟨rfl, below_drewN hB1.out nq⟩

theorem meth_0 (w : World) (f : Nat) : (method (f + 3) 152 (.agg #[]) "loop.example/cloth/impl.asVal").run Try.prog w = .ok (152, .agg #[]) w := by kernel_rfl
theorem meth_1 (b : Bool) (w : World) (f : Nat) : (method (f + 3) 132 (.agg #[.bool b]) "loop.example/cloth/impl.asVal").run Try.prog w = .ok (149, .agg #[.bool b]) w := by kernel_rfl
theorem meth_2 (n : Int) (w : World) (f : Nat) : (method (f + 3) 134 (.agg #[.int .i64 n]) "loop.example/cloth/impl.asVal").run Try.prog w = .ok (150, .agg #[.int .i64 n]) w := by kernel_rfl
theorem meth_3 (s : ByteArray) (w : World) (f : Nat) : (method (f + 3) 136 (.agg #[.string s]) "loop.example/cloth/impl.asVal").run Try.prog w = .ok (151, .agg #[.string s]) w := by kernel_rfl
theorem meth_4 (b : Nat) (w : World) (f : Nat) : (method (f + 3) 92 (.pointer (some ⟨b, 0, none⟩)) "loop.example/cloth/impl.asVal").run Try.prog w = .ok (148, .pointer (some ⟨b, 0, none⟩)) w := by kernel_rfl

/-- 'valueOf'. -/
theorem of_any (v : V) (ta : Option Addr) (tb m cp : Nat) (T : Nat → Nat) (w : World) (H : Hid (Tabs w ta tb m T)) :
    Calls Try.prog 78 #[.agg #[.int .i64 v.k, .int .i64 v.n, .string v.s, .int .i64 v.a], .slice ta m cp] w fun e w' => e = .returned (.tuple #[if isV m v then ifv T v else .nilIface, .bool (isV m v)]) ∧ Below w.heap.size w w' := by
  obtain ⟨k, n, s, a⟩ := v
  simp only
  have eq0 : ∀ x : Int, ((0 : Int) == x) = (x == 0) := fun x => Bool.eq_iff_iff.2 (by simp only [beq_iff_eq]; exact eq_comm)
  have eqs : (([] : List UInt8) == s.toList) = (s.toList == []) := Bool.eq_iff_iff.2 (by simp only [beq_iff_eq]; exact eq_comm)
  have hes : (ByteArray.mk #[]).toList = [] := by rw [ByteArray.toList_eq]
  by_cases k0 : k = 0
  · subst k0
    refine (of_yes 0 n s a 0 0 ⟨#[]⟩ 0 _ _ _ ta m cp w (fun w0 _ => nf_0 n s a ta m cp w0) meth_0 Try.call152 (fun w0 _ => asNil_any w0) (isV m ⟨0, n, s, a⟩) ?_).mono ?_
    · rw [hes, eq0 n, eq0 a, eqs]; rfl
    · rintro e w' ⟨rfl, h⟩
      exact ⟨rfl, h⟩
  by_cases k1 : k = 1
  · subst k1
    refine (of_yes 1 n s a 1 (if (n == 1) then 1 else 0) ⟨#[]⟩ 0 _ _ _ ta m cp w (fun w0 _ => nf_1 n s a ta m cp w0) (meth_1 _) Try.call149 (fun w0 _ => asBool_any _ w0) (isV m ⟨1, n, s, a⟩) ?_).mono ?_
    · rw [hes, eq0 a, eqs]
      show (true && (((if (n == 1) = true then (1 : Int) else 0) == n) && _)) = ((n == 0 || n == 1) && _)
      by_cases h1 : n = 1
      · subst h1; rfl
      · have : (n == 1) = false := by simpa using h1
        rw [this, if_neg (by simp), eq0 n, Bool.or_false, Bool.true_and]
    · rintro e w' ⟨rfl, h⟩
      exact ⟨rfl, h⟩
  by_cases k2 : k = 2
  · subst k2
    refine (of_yes 2 n s a 2 n ⟨#[]⟩ 0 _ _ _ ta m cp w (fun w0 _ => nf_2 n s a ta m cp w0) (meth_2 _) Try.call150 (fun w0 _ => asInt_any _ w0) (isV m ⟨2, n, s, a⟩) ?_).mono ?_
    · rw [hes, eq0 a, eqs, beq_self_eq_true n]; rfl
    · rintro e w' ⟨rfl, h⟩
      exact ⟨rfl, h⟩
  by_cases k3 : k = 3
  · subst k3
    by_cases hs : (s.size : Int) ≤ 500
    · have hd : decide ((s.size : Int) ≤ 500) = true := by simpa using hs
      refine (of_yes 3 n s a 3 0 s 0 _ _ _ ta m cp w (fun w0 _ => hd ▸ nf_3 n s a ta m cp w0) (meth_3 _) Try.call151 (fun w0 _ => asText_any _ w0) (isV m ⟨3, n, s, a⟩) ?_).mono ?_
      · rw [eq0 a, eq0 n, beq_self_eq_true s.toList]
        have hd' : decide (s.size ≤ 500) = true := by simpa using (by omega : s.size ≤ 500)
        show (true && (n == 0 && (true && a == 0))) = (n == 0 && (a == 0 && decide (s.size ≤ 500)))
        rw [hd', Bool.and_true, Bool.true_and, Bool.true_and]
      · rintro e w' ⟨rfl, h⟩
        exact ⟨rfl, h⟩
    · have hd : decide ((s.size : Int) ≤ 500) = false := by simpa using hs
      have hno : isV m ⟨3, n, s, a⟩ = false := by
        have hd' : decide (s.size ≤ 500) = false := by simpa using (by omega : ¬ s.size ≤ 500)
        show (n == 0 && (a == 0 && decide (s.size ≤ 500))) = false
        rw [hd', Bool.and_false, Bool.and_false]
      rw [hno]
      exact of_no 3 n s a _ ta m cp w (fun w0 _ => hd ▸ nf_3 n s a ta m cp w0)
  by_cases k4 : k = 4
  · subst k4
    by_cases ha : 0 ≤ a ∧ a < m
    · refine (of_yes 4 n s a 4 0 ⟨#[]⟩ a _ _ _ ta m cp w (fun w0 hb => nf_4 n s a ta tb m cp T w0 ha.1 ha.2 (H.out.below hb)) (meth_4 _) Try.call148 (fun w0 hb => asTab_any _ a w0 ?_) (isV m ⟨4, n, s, a⟩) ?_).mono ?_
      · have := (H.out.below hb).at_ a.toNat (by omega)
        rw [this]; congr 2; omega
      · rw [hes, eq0 n, eqs, beq_self_eq_true a]
        have h1 : decide (0 ≤ a) = true := by simpa using ha.1
        have h2 : decide (a < m) = true := by simpa using ha.2
        show (true && (n == 0 && (s.toList == [] && true))) = (n == 0 && (s.toList == [] && (decide (0 ≤ a) && decide (a < m))))
        rw [h1, h2]; rfl
      · rintro e w' ⟨rfl, h⟩
        exact ⟨rfl, h⟩
    · have hno : isV m ⟨4, n, s, a⟩ = false := by
        have hd : (decide (0 ≤ a) && decide (a < m)) = false := by
          rw [← Bool.decide_and]; simpa using ha
        show (n == 0 && (s.toList == [] && (decide (0 ≤ a) && decide (a < m)))) = false
        rw [hd, Bool.and_false, Bool.and_false]
      rw [hno]
      exact of_no 4 n s a _ ta m cp w (fun w0 _ => nf_4no n s a ta m cp w0 ha)
  · have hno : isV m ⟨k, n, s, a⟩ = false := by simp [isV, k0, k1, k2, k3, k4]
    rw [hno]
    exact of_no k n s a _ ta m cp w (fun w0 _ => nf_no k n s a ta m cp w0 (by simpa using k0) (by simpa using k1) (by simpa using k2) (by simpa using k3) (by simpa using k4))

theorem isKey_of (k n : Int) (s : ByteArray) (a : Int) (w : World) (x : Value) (t : TypeId) (b b1 b2 b3 : Bool) (y1 y2 y3 : Value) (hb : (b1 || (b2 || b3)) = b)
    (h1 : ∀ w, (Instr.typeAssert (.iface t x) 67 132 true).run Try.prog w = .ok (.tuple #[y1, .bool b1]) w)
    (h2 : ∀ w, (Instr.typeAssert (.iface t x) 67 134 true).run Try.prog w = .ok (.tuple #[y2, .bool b2]) w)
    (h3 : ∀ w, (Instr.typeAssert (.iface t x) 67 136 true).run Try.prog w = .ok (.tuple #[y3, .bool b3]) w)
    (hof : ∀ w, Calls Try.prog 78 #[.agg #[.int .i64 k, .int .i64 n, .string s, .int .i64 a], .slice none 0 0] w fun e w' => e = .returned (.tuple #[.iface t x, .bool true]) ∧ Below w.heap.size w w') :
    Calls Try.prog 50 #[.agg #[.int .i64 k, .int .i64 n, .string s, .int .i64 a]] w fun e w' => e = .returned (.bool b) ∧ Below w.heap.size w w' := by
  have hb0 : Hid (Below w.heap.size w (w.alloc (Obj.cells #[.int .i64 k, .int .i64 n, .string s, .int .i64 a] 29))) := (Below.refl _ _).alloc (Nat.le_refl _) _
  subst hb
  go_enter Try.func50, Try.ntmps50
  go_wp2_with fail
  refine (hof _).mono ?_
  rintro e w1 ⟨rfl, hb1⟩
  have HB : Hid (Below w.heap.size w w1) := grw hb0.out hb1
  clear hb1 hof hb0
  cases b1 <;> cases b2 <;> cases b3
  all_goals
    go_wp2
    go_ret
    exact ⟨rfl, HB.out⟩

/-- 'isKey'. -/
theorem isKey_any (v : V) (w : World) :
    Calls Try.prog 50 #[.agg #[.int .i64 v.k, .int .i64 v.n, .string v.s, .int .i64 v.a]] w fun e w' => e = .returned (.bool (isK v)) ∧ Below w.heap.size w w' := by
  obtain ⟨k, n, s, a⟩ := v
  simp only
  have hof := fun w => of_any ⟨k, n, s, a⟩ none 0 0 0 (fun _ => 0) w (Tabs.nil _)
  obtain ⟨b, hbv⟩ : ∃ b, isV 0 ⟨k, n, s, a⟩ = b := ⟨_, rfl⟩
  simp only [hbv] at hof
  cases b
  · have hno : isK ⟨k, n, s, a⟩ = false := by simp [isK, hbv]
    rw [hno]
    clear hbv hno
    have hb0 : Hid (Below w.heap.size w (w.alloc (Obj.cells #[.int .i64 k, .int .i64 n, .string s, .int .i64 a] 29))) := (Below.refl _ _).alloc (Nat.le_refl _) _
    go_enter Try.func50, Try.ntmps50
    go_wp2_with fail
    refine (hof _).mono ?_
    rintro e w1 ⟨rfl, hb1⟩
    go_wp2
    go_ret
    exact ⟨rfl, grw hb0.out hb1⟩
  · have hk : isK ⟨k, n, s, a⟩ = (k == 1 || k == 2 || k == 3) := by simp [isK, hbv]
    rw [hk]
    by_cases k0 : k = 0
    · subst k0
      exact isKey_of 0 n s a w _ _ _ false false false (.agg #[.bool false]) (.agg #[.int .i64 0]) (.agg #[.string ⟨#[]⟩]) rfl (fun _ => by kernel_rfl) (fun _ => by kernel_rfl) (fun _ => by kernel_rfl) hof
    by_cases k1 : k = 1
    · subst k1
      exact isKey_of 1 n s a w _ _ _ true false false (.agg #[.bool (n == 1)]) (.agg #[.int .i64 0]) (.agg #[.string ⟨#[]⟩]) rfl (fun _ => by kernel_rfl) (fun _ => by kernel_rfl) (fun _ => by kernel_rfl) hof
    by_cases k2 : k = 2
    · subst k2
      exact isKey_of 2 n s a w _ _ _ false true false (.agg #[.bool false]) (.agg #[.int .i64 n]) (.agg #[.string ⟨#[]⟩]) rfl (fun _ => by kernel_rfl) (fun _ => by kernel_rfl) (fun _ => by kernel_rfl) hof
    by_cases k3 : k = 3
    · subst k3
      exact isKey_of 3 n s a w _ _ _ false false true (.agg #[.bool false]) (.agg #[.int .i64 0]) (.agg #[.string s]) rfl (fun _ => by kernel_rfl) (fun _ => by kernel_rfl) (fun _ => by kernel_rfl) hof
    · exfalso
      by_cases k4 : k = 4
      · subst k4
        have : (n == 0 && (s.toList == [] && (decide (0 ≤ a) && decide (a < ((0 : Nat) : Int))))) = true := hbv
        simp at this
        omega
      · simp [isV, k0, k1, k2, k3, k4] at hbv

theorem boxes (w : World) (u v : V) : Below w.heap.size w ((w.alloc (Obj.cells #[.int .i64 u.k, .int .i64 u.n, .string u.s, .int .i64 u.a] 29)).alloc (Obj.cells #[.int .i64 v.k, .int .i64 v.n, .string v.s, .int .i64 v.a] 29)) :=
  ((Below.refl _ _).alloc (Nat.le_refl _) _).alloc (by simp) _

set_option maxHeartbeats 1000000 in
set_option maxRecDepth 100000 in
/-- 'impl.KeyOrder'. -/
theorem implKo_any (u v : V) (w : World) :
    Calls Try.prog 19 #[.agg #[.int .i64 u.k, .int .i64 u.n, .string u.s, .int .i64 u.a], .agg #[.int .i64 v.k, .int .i64 v.n, .string v.s, .int .i64 v.a]] w fun e w' => e = .returned (.int .i64 (ko u v)) ∧ Below w.heap.size w w' := by
  have hb0 : Hid _ := boxes w u v
  by_cases h1 : isK u = true
  · by_cases h2 : isK v = true
    · have HK : Hid (orI (cmpI u.k v.k) (cmpI u.n v.n) (cmpS u.s v.s) = ko u v) := ko_eq h1 h2
      rw [← HK.out]
      go_enter Try.func19, Try.ntmps19
      go_wp2_with fail
      refine (isKey_any u _).mono ?_
      rintro e w1 ⟨rfl, hb1⟩
      rw [h1]
      have hv1 : ValAt w1 (w.heap.size + 1) 0 v.k v.n v.s v.a := by
        have := (ValAt.new (w.alloc (Obj.cells #[.int .i64 u.k, .int .i64 u.n, .string u.s, .int .i64 u.a] 29)) v.k v.n v.s v.a).below hb1
        simpa using this
      have hu1 : ValAt w1 w.heap.size 0 u.k u.n u.s u.a := ((ValAt.new w u.k u.n u.s u.a).below ((Below.refl _ _).alloc (Nat.le_refl _) _)).below hb1
      have hB1 : Hid (Below w.heap.size w w1) := grw hb0.out hb1
      clear hb1
      have d0 := hv1.1; have d1 := hv1.2.1; have d2 := hv1.2.2.1; have d3 := hv1.2.2.2
      simp only [Nat.zero_add] at d1 d2 d3
      go_wp2_with fail
      refine (isKey_any v _).mono ?_
      rintro e w2 ⟨rfl, hb2⟩
      rw [h2]
      have hv2 := hv1.below hb2
      have hu2 := hu1.below hb2
      have hB2 : Hid (Below w.heap.size w w2) := grw hB1.out hb2
      clear d0 d1 d2 d3 hv1 hu1 hB1 hb2 hb0 HK h1 h2
      have d0 := hv2.1; have d1 := hv2.2.1; have d2 := hv2.2.2.1; have d3 := hv2.2.2.2
      have c0 := hu2.1; have c1 := hu2.2.1; have c2 := hu2.2.2.1; have c3 := hu2.2.2.2
      simp only [Nat.zero_add] at d1 d2 d3 c1 c2 c3
      clear hv2 hu2
      have hl : w.heap.size < w2.heap.size := World.block_lt_of_cell? _ _ c0
      have hl' : w.heap.size + 1 < w2.heap.size := World.block_lt_of_cell? _ _ d0
      go_wp2
      go_region_held3 (fun w' => w'.cell? ⟨w.heap.size, 0, none⟩ = some (.int .i64 u.k) ∧ w'.cell? ⟨w.heap.size, 1, none⟩ = some (.int .i64 u.n) ∧ w'.cell? ⟨w.heap.size, 2, none⟩ = some (.string u.s) ∧ w'.cell? ⟨w.heap.size + 1, 0, none⟩ = some (.int .i64 v.k) ∧ w'.cell? ⟨w.heap.size + 1, 1, none⟩ = some (.int .i64 v.n) ∧ w'.cell? ⟨w.heap.size + 1, 2, none⟩ = some (.string v.s))
        (first | exact ⟨c0, c1, c2, d0, d1, d2⟩ | go_keep)
        (first
          | (go_at_call 52; refine (cmpI_any _ _ _).mono ?_; rintro e w' ⟨rfl, rfl⟩)
          | (go_at_call 53; refine (cmpL_any _ _ _).mono ?_; rintro e w' ⟨rfl, rfl⟩)
          | (go_at_call 54; refine (cmpS_any _ _ _).mono ?_; rintro e w' ⟨rfl, rfl⟩)
          | (go_at_call 51; refine (or_any _ _ _ _ _ (World.cell?_alloc_new _ _ _ _) (World.cell?_alloc_new _ _ _ _) (World.cell?_alloc_new _ _ _ _)).mono ?_; rintro e w' ⟨rfl, rfl⟩))
      go_wp2
      go_ret
      exact ⟨rfl, (hB2.out.alloc (Nat.le_of_lt hl) _).drew⟩
    · have h2' : isK v = false := by simpa using h2
      have HK : Hid (ko u v = 2) := show ko u v = 2 by unfold ko; rw [h2', Bool.and_false, if_neg (by simp)]
      rw [HK.out]
      go_enter Try.func19, Try.ntmps19
      go_wp2_with fail
      refine (isKey_any u _).mono ?_
      rintro e w1 ⟨rfl, hb1⟩
      rw [h1]
      have hv1 : ValAt w1 (w.heap.size + 1) 0 v.k v.n v.s v.a := by
        have := (ValAt.new (w.alloc (Obj.cells #[.int .i64 u.k, .int .i64 u.n, .string u.s, .int .i64 u.a] 29)) v.k v.n v.s v.a).below hb1
        simpa using this
      have hB1 : Hid (Below w.heap.size w w1) := grw hb0.out hb1
      clear hb1
      have d0 := hv1.1; have d1 := hv1.2.1; have d2 := hv1.2.2.1; have d3 := hv1.2.2.2
      simp only [Nat.zero_add] at d1 d2 d3
      go_wp2_with fail
      refine (isKey_any v _).mono ?_
      rintro e w2 ⟨rfl, hb2⟩
      rw [h2']
      go_wp2
      go_ret
      exact ⟨rfl, grw hB1.out hb2⟩
  · have h1' : isK u = false := by simpa using h1
    have HK : Hid (ko u v = 2) := show ko u v = 2 by unfold ko; rw [h1', Bool.false_and, if_neg (by simp)]
    rw [HK.out]
    go_enter Try.func19, Try.ntmps19
    go_wp2_with fail
    refine (isKey_any u _).mono ?_
    rintro e w1 ⟨rfl, hb1⟩
    rw [h1']
    go_wp2
    go_ret
    exact ⟨rfl, grw hb0.out hb1⟩

/-- 'impl.KeyOrder' lays new blocks and draws: nothing else. -/
theorem implKo_grows (u v : V) (w : World) :
    Calls Try.prog 19 #[.agg #[.int .i64 u.k, .int .i64 u.n, .string u.s, .int .i64 u.a], .agg #[.int .i64 v.k, .int .i64 v.n, .string v.s, .int .i64 v.a]] w fun e w' => e = .returned (.int .i64 (ko u v)) ∧ ∃ q os', w' = grow (w.drewN q) os' := by
  refine (implKo_any u v w).mono ?_
  rintro e w' ⟨he, hb⟩
  refine ⟨he, w'.drawn - w.drawn, w'.heap.extract w.heap.size w'.heap.size, ?_⟩
  have hd := hb.d
  have h1 : w'.heap = w.heap ++ w'.heap.extract w.heap.size w'.heap.size := by
    apply Array.ext_getElem?
    intro i
    rcases Nat.lt_or_ge i w.heap.size with h | h
    · rw [hb.b.block i h, Array.getElem?_append_left h]
    · rw [Array.getElem?_append_right h, Array.getElem?_extract]
      have e : w.heap.size + (i - w.heap.size) = i := by omega
      have hs := hb.b.size
      by_cases hi : i < w'.heap.size
      · rw [if_pos (by omega), e]
      · rw [if_neg (by omega), Array.getElem?_eq_none (by omega)]
  have h2 : w.drawn + (w'.drawn - w.drawn) = w'.drawn := by omega
  obtain ⟨h, t, d, o, p⟩ := w'
  simp only [grow, World.drewN, World.mk.injEq]
  exact ⟨h1, hb.b.tape, h2.symm, hb.b.os, hb.b.output⟩

end Go.Proofs.Ytgflalfiopnmnab.Dr

namespace Go.Proofs.Ytgflalfiopnmnab
open Go.Shelf

/-- The sort of keys, laid at this program. -/
def Try.sortVal_ren : Go.Shelf.Ren := ⟨fun | 6 => 90 | 15 => 105 | 14 => 104 | 28 => 125 | 29 => 126 | 20 => 117 | 21 => 118 | 22 => 119 | 23 => 120 | 24 => 121 | 25 => 122 | 26 => 123 | 27 => 124 | 46 => 127 | 47 => 128 | 48 => 129 | 49 => 130 | 50 => 131 | 57 => 132 | n => n, fun | 22 => 45 | 24 => 29 | 25 => 37 | 3 => 3 | 39 => 174 | 0 => 0 | 53 => 203 | 55 => 205 | 4 => 4 | 46 => 196 | 45 => 195 | 50 => 200 | 5 => 5 | 9 => 9 | 66 => 208 | 70 => 212 | 76 => 214 | 77 => 215 | n => n, fun | n => n⟩
theorem Try.sortVal : SlLaysF0.n6 Try.prog Try.sortVal_ren := {
  mixed := by kernel_rfl
  f6 := ⟨Try.f90.name, by decide, Try.func90.trans (congrArg some (by kernel_rfl))⟩
  f14 := ⟨Try.f104.name, by decide, Try.func104.trans (congrArg some (by kernel_rfl))⟩
  f15 := Try.func105.trans (congrArg some (by kernel_rfl))
  f20 := ⟨Try.f117.name, by decide, Try.func117.trans (congrArg some (by kernel_rfl))⟩
  f21 := ⟨Try.f118.name, by decide, Try.func118.trans (congrArg some (by kernel_rfl))⟩
  f22 := ⟨Try.f119.name, by decide, Try.func119.trans (congrArg some (by kernel_rfl))⟩
  f23 := ⟨Try.f120.name, by decide, Try.func120.trans (congrArg some (by kernel_rfl))⟩
  f24 := ⟨Try.f121.name, by decide, Try.func121.trans (congrArg some (by kernel_rfl))⟩
  f25 := ⟨Try.f122.name, by decide, Try.func122.trans (congrArg some (by kernel_rfl))⟩
  f26 := ⟨Try.f123.name, by decide, Try.func123.trans (congrArg some (by kernel_rfl))⟩
  f27 := ⟨Try.f124.name, by decide, Try.func124.trans (congrArg some (by kernel_rfl))⟩
  f28 := Try.func125.trans (congrArg some (by kernel_rfl))
  f29 := Try.func126.trans (congrArg some (by kernel_rfl))
  f46 := ⟨Try.f127.name, by decide, Try.func127.trans (congrArg some (by kernel_rfl))⟩
  f47 := Try.func128.trans (congrArg some (by kernel_rfl))
  f48 := Try.func129.trans (congrArg some (by kernel_rfl))
  f49 := ⟨Try.f130.name, by decide, Try.func130.trans (congrArg some (by kernel_rfl))⟩
  f50 := ⟨Try.f131.name, by decide, Try.func131.trans (congrArg some (by kernel_rfl))⟩
  f57 := ⟨Try.f132.name, by decide, Try.func132.trans (congrArg some (by kernel_rfl))⟩
  t0 := Try.underlying0
  a0 := Try.isAgg0
  z0 := Try.sizeOf0
  v0 := Try.zeroValue0
  t3 := Try.underlying3
  a3 := Try.isAgg3
  z3 := Try.sizeOf3
  v3 := Try.zeroValue3
  t4 := Try.underlying4
  a4 := Try.isAgg4
  z4 := Try.sizeOf4
  v4 := Try.zeroValue4
  t5 := Try.underlying5
  a5 := Try.isAgg5
  z5 := Try.sizeOf5
  v5 := Try.zeroValue5
  t9 := Try.underlying9
  a9 := Try.isAgg9
  z9 := Try.sizeOf9
  v9 := Try.zeroValue9
  t22 := Try.underlying45
  a22 := Try.isAgg45
  z22 := Try.sizeOf45
  v22 := Try.zeroValue45
  t25 := Try.underlying37
  a25 := Try.isAgg37
  z25 := Try.sizeOf37
  v25 := Try.zeroValue37
  t39 := Try.underlying174
  a39 := Try.isAgg174
  z39 := Try.sizeOf174
  v39 := Try.zeroValue174
  t45 := Try.underlying195
  a45 := Try.isAgg195
  z45 := Try.sizeOf195
  v45 := Try.zeroValue195
  t46 := Try.underlying196
  a46 := Try.isAgg196
  z46 := Try.sizeOf196
  v46 := Try.zeroValue196
  t50 := Try.underlying200
  a50 := Try.isAgg200
  z50 := Try.sizeOf200
  v50 := Try.zeroValue200
  t53 := Try.underlying203
  a53 := Try.isAgg203
  z53 := Try.sizeOf203
  v53 := Try.zeroValue203
  t55 := Try.underlying205
  a55 := Try.isAgg205
  z55 := Try.sizeOf205
  v55 := Try.zeroValue205
  t66 := Try.underlying208
  a66 := Try.isAgg208
  z66 := Try.sizeOf208
  v66 := Try.zeroValue208
  t70 := Try.underlying212
  a70 := Try.isAgg212
  z70 := Try.sizeOf212
  v70 := Try.zeroValue212
  t76 := Try.underlying214
  a76 := Try.isAgg214
  z76 := Try.sizeOf214
  v76 := Try.zeroValue214
  t77 := Try.underlying215
  a77 := Try.isAgg215
  z77 := Try.sizeOf215
  v77 := Try.zeroValue215 }

end Go.Proofs.Ytgflalfiopnmnab

namespace Go.Proofs.Ytgflalfiopnmnab
open Go.RowKit Vl

/-- A cell of a row that is owned is written. -/
theorem owns_set {w : World} {base t s n g cap : Nat} {xs : List Value} (h : w.ownsRow base t s (.slice (some ⟨g, 0, none⟩) n cap) n xs) (i : Nat) (y : Value) : (w.setCell ⟨g, i, none⟩ y).ownsRow base t s (.slice (some ⟨g, 0, none⟩) n cap) n (xs.set i y) := by
  refine ⟨by rw [List.length_set]; exact h.1, ?_⟩
  rcases h.2 with ⟨hv, _⟩ | ⟨g', cap', cur, hv, hge, hh, hl, hm, hs, ht⟩
  · cases hv
  · cases hv
    refine Or.inr ⟨g, cap, cur.setIfInBounds i y, rfl, hge, ?_, hl, hm, by simpa using hs, ?_⟩
    · simp [World.setCell, Array.getElem?_modify, hh]
    · rw [Array.toList_setIfInBounds, List.take_set, ht]

/-- A pair is written into a row of pairs. -/
theorem pairCells_put {K X : Nat → V} {c j : Nat} (hj : j < c) (k x : V) :
    ((((((((pairCells K X c).set (j * 8) (.int .i64 k.k)).set (j * 8 + 1) (.int .i64 k.n)).set (j * 8 + 2) (.string k.s)).set (j * 8 + 3) (.int .i64 k.a)).set (j * 8 + 4) (.int .i64 x.k)).set (j * 8 + 5) (.int .i64 x.n)).set (j * 8 + 6) (.string x.s)).set (j * 8 + 7) (.int .i64 x.a)
      = pairCells (fun i => if i = j then k else K i) (fun i => if i = j then x else X i) c := by
  apply List.ext_getElem?
  intro m
  by_cases hm : m < c * 8
  · obtain ⟨q, i, hi, rfl⟩ : ∃ q i, i < 8 ∧ m = q * 8 + i := ⟨m / 8, m % 8, by omega, by omega⟩
    have hq : q < c := by omega
    rw [pairCells_at _ _ _ _ _ hq hi]
    simp only [List.getElem?_set, List.length_set, pairCells_len]
    by_cases e : q = j
    · subst e
      simp only [if_true]
      have hlt : ∀ d, d < 8 → q * 8 + d < c * 8 := fun d hd => by omega
      rcases (show i = 0 ∨ i = 1 ∨ i = 2 ∨ i = 3 ∨ i = 4 ∨ i = 5 ∨ i = 6 ∨ i = 7 by omega) with rfl | rfl | rfl | rfl | rfl | rfl | rfl | rfl <;> simp [hlt, show q * 8 < c * 8 by omega]
    · simp only [e, if_false]
      rw [if_neg (by omega), if_neg (by omega), if_neg (by omega), if_neg (by omega), if_neg (by omega), if_neg (by omega), if_neg (by omega), if_neg (by omega)]
      exact pairCells_at K X c q i hq hi
  · rw [List.getElem?_eq_none (by simp only [List.length_set, pairCells_len]; omega), List.getElem?_eq_none (by rw [pairCells_len]; omega)]

theorem owns_put {w : World} {base n g cap j : Nat} {K X : Nat → V} (h : w.ownsRow base 63 8 (.slice (some ⟨g, 0, none⟩) n cap) n (pairCells K X n)) (hj : j < n) (k x : V) :
    ((((((((w.setCell ⟨g, j * 8, none⟩ (.int .i64 k.k)).setCell ⟨g, j * 8 + 1, none⟩ (.int .i64 k.n)).setCell ⟨g, j * 8 + 2, none⟩ (.string k.s)).setCell ⟨g, j * 8 + 3, none⟩ (.int .i64 k.a)).setCell ⟨g, j * 8 + 4, none⟩ (.int .i64 x.k)).setCell ⟨g, j * 8 + 5, none⟩ (.int .i64 x.n)).setCell ⟨g, j * 8 + 6, none⟩ (.string x.s)).setCell ⟨g, j * 8 + 7, none⟩ (.int .i64 x.a)).ownsRow base 63 8 (.slice (some ⟨g, 0, none⟩) n cap) n (pairCells (fun i => if i = j then k else K i) (fun i => if i = j then x else X i) n) := by
  rw [← pairCells_put hj]
  exact owns_set (owns_set (owns_set (owns_set (owns_set (owns_set (owns_set (owns_set h _ _) _ _) _ _) _ _) _ _) _ _) _ _) _ _

/-- Where pairs stand, by their places. -/
abbrev byI (K : Nat → V) (ms : List Nat) (i : Nat) : V := K (ms.getD i 0)

theorem getD_mid {A B : List Nat} {x : Nat} : (A ++ x :: B).getD A.length 0 = x := by simp [List.getD_eq_getElem?_getD]
theorem getD_swap {A B : List Nat} {x y : Nat} (i : Nat) (K : Nat → V) : (if i = A.length + 1 then K y else if i = A.length then K x else byI K (A ++ y :: x :: B) i) = byI K (A ++ x :: y :: B) i := by
  unfold byI
  simp only [List.getD_eq_getElem?_getD]
  by_cases h1 : i = A.length + 1
  · subst h1
    rw [if_pos rfl, List.getElem?_append_right (by omega)]
    simp
  · rw [if_neg h1]
    by_cases h2 : i = A.length
    · subst h2
      rw [if_pos rfl, List.getElem?_append_right (by omega)]
      simp
    · rw [if_neg h2]
      by_cases h3 : i < A.length
      · rw [List.getElem?_append_left h3, List.getElem?_append_left h3]
      · rw [List.getElem?_append_right (by omega), List.getElem?_append_right (by omega)]
        obtain ⟨d, hd⟩ : ∃ d, i - A.length = d + 2 := ⟨i - A.length - 2, by omega⟩
        rw [hd]
        simp

theorem only8 {w : World} {g a0 a1 a2 a3 a4 a5 a6 a7 : Nat} {v0 v1 v2 v3 v4 v5 v6 v7 : Value} : Only (fun k => k = g) w ((((((((w.setCell ⟨g, a0, none⟩ v0).setCell ⟨g, a1, none⟩ v1).setCell ⟨g, a2, none⟩ v2).setCell ⟨g, a3, none⟩ v3).setCell ⟨g, a4, none⟩ v4).setCell ⟨g, a5, none⟩ v5).setCell ⟨g, a6, none⟩ v6).setCell ⟨g, a7, none⟩ v7) :=
  ((((((((Only.refl (fun k => k = g) w).set (p := ⟨g, a0, none⟩) rfl v0).set (p := ⟨g, a1, none⟩) rfl v1).set (p := ⟨g, a2, none⟩) rfl v2).set (p := ⟨g, a3, none⟩) rfl v3).set (p := ⟨g, a4, none⟩) rfl v4).set (p := ⟨g, a5, none⟩) rfl v5).set (p := ⟨g, a6, none⟩) rfl v6).set (p := ⟨g, a7, none⟩) rfl v7

end Go.Proofs.Ytgflalfiopnmnab

namespace Go.Proofs.Ytgflalfiopnmnab
open Go.RowKit Vl Go.Sort Go.Shelf

/-- A key. -/
abbrev KV := { v : V // isK v = true }
instance : Inhabited KV := ⟨⟨⟨2, 0, ⟨#[]⟩, 0⟩, by decide +kernel⟩⟩
def encK (x : KV) : List Value := [.int .i64 x.1.k, .int .i64 x.1.n, .string x.1.s, .int .i64 x.1.a]

theorem ltK (x y : KV) : ltOf (fun x y : KV => ko x.1 y.1) x y = less x.1 y.1 := by
  unfold ltOf ko
  simp only [x.2, y.2, Bool.and_self, if_true]
  cases h : less x.1 y.1
  · cases less y.1 x.1 <;> simp
  · simp
theorem less_irrefl (a : V) : less a a = false := by
  cases h : less a a
  · rfl
  · have := less_asymm h; rw [h] at this; cases this
theorem swoK : SWO (ltOf fun x y : KV => ko x.1 y.1) where
  irrefl x := by rw [ltK]; exact less_irrefl _
  trans x y z h1 h2 := by
    rw [ltK] at *
    cases h : less x.1 z.1
    · have := le_trans (less_asymm h2) h
      rw [this] at h1
      cases h1
    · rfl
  ntrans x y z h1 h2 := by
    rw [ltK] at *
    exact le_trans h2 h1

theorem perm_map {α β : Type} {f : α → β} {l k : List β} (h : l.Perm k) : ∀ ms : List α, k = ms.map f → ∃ ls : List α, ls.Perm ms ∧ l = ls.map f := by
  induction h with
  | nil => intro ms e; cases ms with
    | nil => exact ⟨[], List.Perm.refl _, rfl⟩
    | cons => simp at e
  | cons x _ ih => intro ms e; cases ms with
    | nil => simp at e
    | cons m ms =>
      simp only [List.map_cons, List.cons.injEq] at e
      obtain ⟨ls, h1, h2⟩ := ih ms e.2
      exact ⟨m :: ls, h1.cons m, by rw [h2, e.1]; rfl⟩
  | swap x y l => intro ms e; match ms, e with
    | [], e => simp at e
    | [_], e => simp at e
    | a :: b :: ms, e =>
      simp only [List.map_cons, List.cons.injEq] at e
      obtain ⟨e1, e2, e3⟩ := e
      exact ⟨b :: a :: ms, List.Perm.swap _ _ _, by rw [e1, e2, e3]; rfl⟩
  | trans _ _ ih1 ih2 => intro ms e
                         obtain ⟨ls, h1, h2⟩ := ih2 ms e
                         obtain ⟨ls', h3, h4⟩ := ih1 ls h2
                         exact ⟨ls', h3.trans h1, h4⟩

theorem keyCells_len (K : Nat → V) (L : Nat) : (keyCells (keys K L)).length = L * 4 := by
  induction L with
  | zero => rfl
  | succ L ih => rw [keys_succ]; simp only [keyCells, List.flatMap_append, List.length_append] at ih ⊢; rw [ih]; simp; omega
theorem keyCells_at (K : Nat → V) : ∀ (L j i : Nat), j < L → i < 4 → (keyCells (keys K L))[j * 4 + i]? = [Value.int .i64 (K j).k, .int .i64 (K j).n, .string (K j).s, .int .i64 (K j).a][i]? := by
  intro L
  induction L with
  | zero => intro j i hj; omega
  | succ L ih =>
    intro j i hj hi
    rw [keys_succ]
    have e : keyCells (keys K L ++ [K L]) = keyCells (keys K L) ++ [.int .i64 (K L).k, .int .i64 (K L).n, .string (K L).s, .int .i64 (K L).a] := by simp [keyCells]
    rw [e]
    by_cases e : j = L
    · subst e
      rw [List.getElem?_append_right (by rw [keyCells_len]; omega), keyCells_len, show j * 4 + i - j * 4 = i by omega]
    · rw [List.getElem?_append_left (by rw [keyCells_len]; omega)]
      exact ih j i (by omega) hi

/-- The keys of a row, as keys. -/
noncomputable def kvOf (K : Nat → V) (c : Nat) : KV := if h : isK (K c) = true then ⟨K c, h⟩ else default
theorem kvOf_val {K : Nat → V} {c : Nat} (h : isK (K c) = true) : (kvOf K c).1 = K c := by unfold kvOf; rw [dif_pos h]
noncomputable def kvs (K : Nat → V) (L : Nat) : Array KV := ((List.range L).map (kvOf K)).toArray
theorem kvs_size (K : Nat → V) (L : Nat) : (kvs K L).size = L := by simp [kvs]
theorem kvs_at (K : Nat → V) (L c : Nat) (h : c < L) : (kvs K L)[c]! = kvOf K c := by
  rw [getElem!_pos _ c (by rw [kvs_size]; exact h)]
  simp [kvs]

theorem flat_at {d : Array KV} {j i : Nat} (hj : j < d.size) (hi : i < 4) : (flatK encK 4 d)[j * 4 + i]! = (encK d[j]!)[i]! := by
  rw [get_flatK _ _ _ _ (by omega), show (j * 4 + i) / 4 = j by omega, show (j * 4 + i) % 4 = i by omega]

theorem encK_at (x : KV) {i : Nat} (hi : i < 4) : [Value.int .i64 x.1.k, .int .i64 x.1.n, .string x.1.s, .int .i64 x.1.a][i]? = some (encK x)[i]! := by
  rcases (show i = 0 ∨ i = 1 ∨ i = 2 ∨ i = 3 by omega) with rfl | rfl | rfl | rfl <;> rfl

theorem holds_keys {w : World} {base L g cap : Nat} {K : Nat → V} (hK : ∀ c, c < L → isK (K c) = true) (h : w.ownsRow base 29 4 (.slice (some ⟨g, 0, none⟩) L cap) L (keyCells (keys K L))) : HoldsK encK 4 w g 0 (kvs K L) := by
  intro t ht
  rw [size_flatK, kvs_size] at ht
  obtain ⟨j, i, hi, rfl⟩ : ∃ j i, i < 4 ∧ t = j * 4 + i := ⟨t / 4, t % 4, by omega, by omega⟩
  have hj : j < L := by omega
  have e := keyCells_at K L j i hj hi
  have hv := kvOf_val (hK j hj)
  rw [← hv, encK_at _ hi] at e
  obtain ⟨g', cap', hs, hc⟩ := owns_cell h e
  cases hs
  rw [Nat.zero_add]
  refine ⟨?_, ?_⟩
  · rw [hc, flat_at (by rw [kvs_size]; exact hj) hi, kvs_at K L j hj]
    rfl
  · rcases h.2 with ⟨hv, _⟩ | ⟨g', cap', cur, hv, _, hh, _⟩
    · cases hv
    · cases hv
      simp [World.frozen?, hh]

/-- What the sort leaves of a row of keys. -/
theorem sorted_row {w : World} {base L g cap n : Nat} {K : Nat → V} {d' : Array KV} {os : Array Obj} (hK : ∀ c, c < L → isK (K c) = true) (h : w.ownsRow base 29 4 (.slice (some ⟨g, 0, none⟩) L cap) L (keyCells (keys K L)))
    (hp : PermIn 0 L (kvs K L) d') (hs : SortedIn (ltOf fun x y : KV => ko x.1 y.1) 0 L d') :
    ∃ ls, SortI K L ls ∧ (sortWorldK encK 4 w g 0 n d' os).ownsRow base 29 4 (.slice (some ⟨g, 0, none⟩) L cap) L (keyCells (keys (byI K ls) L)) ∧ Only (fun k => k = g) w (sortWorldK encK 4 w g 0 n d' os) := by
  have hsz : d'.size = L := by rw [hp.1, kvs_size]
  have hperm : d'.toList.Perm ((List.range L).map (kvOf K)) := by
    have := hp.2.2
    rw [show d'.extract 0 L = d' by apply Array.ext_getElem?; intro i; rw [Array.getElem?_extract]; by_cases hi : i < L <;> simp [hi, hsz]] at this
    rw [show (kvs K L).extract 0 L = kvs K L by apply Array.ext_getElem?; intro i; rw [Array.getElem?_extract]; by_cases hi : i < L <;> simp [hi, kvs_size]] at this
    simpa [kvs] using this
  obtain ⟨ls, hls, hd⟩ := perm_map hperm (List.range L) rfl
  have hlen : ls.length = L := by rw [hls.length_eq]; simp
  have hat : ∀ i, i < L → d'[i]! = kvOf K (ls.getD i 0) := fun i hi => by
    rw [getElem!_pos _ i (by omega), ← Array.getElem_toList]
    simp only [hd]
    rw [List.getElem_map, List.getD_eq_getElem?_getD, List.getElem?_eq_getElem (by omega)]
    rfl
  have hlt : ∀ i, i < L → ls.getD i 0 < L := fun i hi => by
    rw [List.getD_eq_getElem?_getD, List.getElem?_eq_getElem (by omega)]
    exact List.mem_range.1 (hls.subset (List.getElem_mem _))
  refine ⟨ls, ⟨hls, ?_⟩, ?_, ?_⟩
  · unfold SortW
    rw [List.pairwise_iff_getElem]
    intro i j hi hj hij
    have := hs i j (Nat.zero_le _) hij (by omega)
    rw [ltK, hat i (by omega), hat j (by omega)] at this
    rw [kvOf_val (hK _ (hlt j (by omega))), kvOf_val (hK _ (hlt i (by omega)))] at this
    simpa [List.getD_eq_getElem?_getD, hi, hj] using this
  · refine ⟨by rw [keyCells_len], Or.inr ?_⟩
    rcases h.2 with ⟨hv, _⟩ | ⟨g', cap', cur, hv, hge, hh, hl, hm, hs', ht⟩
    · cases hv
    · cases hv
      have hgl := blk_lt hh
      refine ⟨g, cap, putCells id 0 (flatK encK 4 d') cur, rfl, hge, ?_, hl, hm, by simp [putCells, hs'], ?_⟩
      · unfold sortWorldK grow putRowK putRow mapBlock
        simp only
        rw [Array.getElem?_append_left (by simp [Sort.ahead]; exact hgl)]
        simp [Array.getElem?_modify, Sort.ahead, hh, onCells]
      · apply List.ext_getElem?
        intro t
        by_cases ht' : t < L * 4
        · obtain ⟨j, i, hi, rfl⟩ : ∃ j i, i < 4 ∧ t = j * 4 + i := ⟨t / 4, t % 4, by omega, by omega⟩
          have hj : j < L := by omega
          have e := keyCells_at (byI K ls) L j i hj hi
          unfold byI at e
          rw [← kvOf_val (hK _ (hlt j hj)), encK_at _ hi] at e
          rw [List.getElem?_take, if_pos ht']
          have hcl : j * 4 + i < cur.size := by rw [hs']; have : L * 4 ≤ cap * 4 := Nat.mul_le_mul_right 4 hl; omega
          have e2 : (putCells id 0 (flatK encK 4 d') cur).toList[j * 4 + i]? = some (flatK encK 4 d')[j * 4 + i]! := by
            simp [putCells, hcl, hsz]
            intro hx
            omega
          rw [e2, flat_at (by omega) hi, hat j hj]
          exact e.symm
        · rw [List.getElem?_eq_none (by simp; omega), List.getElem?_eq_none (by rw [keyCells_len]; omega)]
  · refine ⟨rfl, rfl, rfl, ?_, fun k hk hne => ?_⟩
    · unfold sortWorldK grow putRowK putRow mapBlock
      simp [Sort.ahead]
    · unfold sortWorldK grow putRowK putRow mapBlock
      simp only
      rw [Array.getElem?_append_left (by simp [Sort.ahead]; exact hk), Array.getElem?_modify, if_neg (fun e => hne e.symm)]
      rfl

end Go.Proofs.Ytgflalfiopnmnab

namespace Go.Proofs.Ytgflalfiopnmnab
open Go.RowKit Vl Go.Sort Go.Shelf

set_option maxHeartbeats 1000000 in
/-- The sort of a row of keys. -/
theorem sort_some (base L g cap : Nat) (K : Nat → V) (w : World) (hL : L ≤ 1000) (hK : ∀ c, c < L → isK (K c) = true) (hO : w.ownsRow base 29 4 (.slice (some ⟨g, 0, none⟩) L cap) L (keyCells (keys K L))) :
    Calls Try.prog 90 #[.slice (some ⟨g, 0, none⟩) L cap, .func (.func 19) #[] #[]] w fun e w' => e = .returned (.tuple #[]) ∧ ∃ ls, SortI K L ls ∧ w'.ownsRow base 29 4 (.slice (some ⟨g, 0, none⟩) L cap) L (keyCells (keys (byI K ls) L)) ∧ Only (fun k => k = g) w w' := by
  have eg : ∀ args w, (callFunc 19 args).run Try.prog w = .ok (.enter 19 args) w := enters_of Try.func19 (by kernel_rfl) rfl
  have hgl : g < w.heap.size := by
    obtain ⟨_, _, _, h⟩ := owns_form hO
    exact (h g rfl).2
  have hcon := AnyQ.slices_SortFunc Try.sortVal 4 (fun w => by kernel_rfl) (fun w => by kernel_rfl) encK (fun _ => rfl) (fun x v hv => by simp [encK] at hv; rcases hv with rfl | rfl | rfl | rfl <;> rfl) (fun x y => ko x.1 y.1) swoK 19 #[] g 0 cap (kvs K L) w eg (fun m os dk _ x y => Dr.implKo_grows x.1 y.1 _) (holds_keys hK hO) hgl (by rw [kvs_size]; omega)
  rw [kvs_size] at hcon
  refine Calls.mono hcon ?_
  rintro e w' ⟨he, d', n, os, hp, hs, rfl⟩
  exact ⟨he, sorted_row hK hO hp hs⟩

theorem insert_none (f : Value) (w : World) : Calls Try.prog 117 #[.slice none 0 0, .int .i64 0, .int .i64 0, f] w fun e w' => e = .returned (.tuple #[]) ∧ w' = w := by
  go_enter Try.func117, Try.ntmps117
  go_wp2
  go_loopw [8] (fun k wr => k = .int .i64 1 ∧ wr = w) (fun _ _ => 0)
  case atStart => exact ⟨rfl, rfl⟩
  case round =>
    obtain ⟨rfl, rfl⟩ := hrel
    go_wp2
    go_end0
    exact ⟨rfl, rfl⟩

set_option maxHeartbeats 1000000 in
set_option maxRecDepth 100000 in
theorem pdq_none (f : Value) (l : Int) (w : World) : Calls Try.prog 104 #[.slice none 0 0, .int .i64 0, .int .i64 0, .int .i64 l, f] w fun e w' => e = .returned (.tuple #[]) ∧ w' = w := by
  go_enter Try.func104, Try.ntmps104
  go_wp2
  go_loopw [1, 2] (fun a b wr => a = .int .i64 0 ∧ b = .int .i64 0 ∧ wr = w) (fun _ _ _ => 0)
  case atStart => exact ⟨rfl, rfl, rfl⟩
  case round =>
    obtain ⟨rfl, rfl, rfl⟩ := hrel
    go_wp2_with fail
    refine (insert_none f wr).mono ?_
    rintro e w' ⟨rfl, rfl⟩
    go_wp2
    refine bodyPost_ret (results_none rfl _ _ _) rfl ?_
    exact ⟨rfl, rfl⟩

theorem sort_none (f : Value) (w : World) : Calls Try.prog 90 #[.slice none 0 0, f] w fun e w' => e = .returned (.tuple #[]) ∧ w' = w := by
  have hl : Calls Try.prog 105 #[.int .u64 0] w fun e w' => e = .returned (.int .i64 (Lib.bitLen (0 : Int).toNat : Nat)) ∧ w' = w := Any.bits_Len (SlLaysF0.n15.bits (P := Try.prog) (ρ := Try.sortVal_ren) { Try.sortVal with }) 0 w (by omega) (by omega)
  have wr0 : IntKind.u64.wrap (0 : Int) = 0 := by simp [IntKind.wrap, IntKind.bits, IntKind.signed]
  obtain ⟨l, hl'⟩ : ∃ l : Int, ((Lib.bitLen (0 : Int).toNat : Nat) : Int) = l := ⟨_, rfl⟩
  rw [hl'] at hl
  clear hl'
  go_enter Try.func90, Try.ntmps90
  go_wp2_with fail
  refine hl.mono ?_
  rintro e w' ⟨rfl, rfl⟩
  go_wp2_with fail
  refine (pdq_none f l w').mono ?_
  rintro e w2 ⟨rfl, rfl⟩
  go_wp2
  go_end0
  exact ⟨rfl, rfl⟩

end Go.Proofs.Ytgflalfiopnmnab

namespace Go.Proofs.Ytgflalfiopnmnab
open Go.RowKit Vl

/-- A value of a graph whose tables lie behind N others. -/
def sh (N : Nat) (v : V) : V := if v.k = 4 then ⟨v.k, v.n, v.s, v.a + N⟩ else v
theorem sh_zero (v : V) : sh 0 v = v := by
  unfold sh
  split
  · cases v; simp
  · rfl
theorem sh_k (N : Nat) (v : V) : (sh N v).k = v.k := by unfold sh; split <;> rfl
theorem sh_isV {N n : Nat} {v : V} (h : isV n v = true) : isV (N + n) (sh N v) = true := by
  by_cases h4 : v.k = 4
  · unfold sh
    rw [if_pos h4]
    unfold isV at h ⊢
    rw [if_neg (by omega), if_neg (by omega), if_neg (by omega), if_neg (by omega), if_pos h4] at h
    rw [if_neg (by simp only; omega), if_neg (by simp only; omega), if_neg (by simp only; omega), if_neg (by simp only; omega), if_pos (by simp only; omega)]
    simp only [Bool.and_eq_true, decide_eq_true_eq] at h ⊢
    refine ⟨h.1, h.2.1, ?_, ?_⟩
    · have := h.2.2.1; omega
    · have := h.2.2.2; omega
  · unfold sh
    rw [if_neg h4]
    unfold isV at h ⊢
    rw [if_neg h4] at h ⊢
    exact h
theorem isV_more {N n : Nat} {v : V} (h : isV N v = true) : isV (N + n) v = true := by
  by_cases h4 : v.k = 4
  · unfold isV at h ⊢
    rw [if_neg (by omega), if_neg (by omega), if_neg (by omega), if_neg (by omega), if_pos h4] at h ⊢
    simp only [Bool.and_eq_true, decide_eq_true_eq] at h ⊢
    refine ⟨h.1, h.2.1, h.2.2.1, ?_⟩
    have := h.2.2.2; omega
  · unfold isV at h ⊢
    rw [if_neg h4] at h ⊢
    exact h
theorem ifv_congr {T T' : Nat → Nat} {n : Nat} {v : V} (hv : isV n v = true) (h : v.k = 4 → T v.a.toNat = T' v.a.toNat) : ifv T v = ifv T' v := by
  by_cases h4 : v.k = 4
  · rw [ifv_tab h4, ifv_tab h4, h h4]
  · unfold ifv
    split
    · rfl
    · split
      · rfl
      · split
        · rfl
        · split
          · rfl
          · rename_i k0 k1 k2 k3
            simp [isV, k0, k1, k2, k3, h4] at hv
theorem ifv_sh {T T' : Nat → Nat} {n N : Nat} {v : V} (hv : isV n v = true) (h : ∀ j, j < n → T (N + j) = T' j) : ifv T' v = ifv T (sh N v) := by
  by_cases h4 : v.k = 4
  · obtain ⟨a0, a1⟩ := isV_tab hv h4
    rw [ifv_tab h4, ifv_tab ((sh_k N v).trans h4)]
    have e : (sh N v).a.toNat = N + v.a.toNat := by
      unfold sh
      rw [if_pos h4]
      simp only
      omega
    rw [e, h v.a.toNat (by omega)]
  · have e : sh N v = v := by unfold sh; rw [if_neg h4]
    rw [e]
    exact ifv_congr hv (fun h => absurd h h4)

/-- One row behind another. -/
def jn {α : Type} (N : Nat) (f g : Nat → α) (j : Nat) : α := if j < N then f j else g (j - N)
theorem jn_lt {α : Type} {N : Nat} {f g : Nat → α} {j : Nat} (h : j < N) : jn N f g j = f j := by unfold jn; rw [if_pos h]
theorem jn_ge {α : Type} {N : Nat} {f g : Nat → α} {j : Nat} (h : ¬ j < N) : jn N f g j = g (j - N) := by unfold jn; rw [if_neg h]
theorem jn_add {α : Type} {N : Nat} {f g : Nat → α} (j : Nat) : jn N f g (N + j) = g j := by rw [jn_ge (by omega)]; congr 1; omega

theorem Good.join {N n : Nat} {L L' : Nat → Nat} {X X' : Nat → Nat → V} (h : Good N L X) (h' : Good n L' X') : Good (N + n) (jn N L L') (jn N X (fun j c => sh N (X' j c))) := by
  intro r hr c hc
  by_cases e : r < N
  · rw [jn_lt e] at hc ⊢
    exact isV_more (h r e c hc)
  · rw [jn_ge e] at hc ⊢
    exact sh_isV (h' (r - N) (by omega) c hc)

/-- Tables, and those of the next graph behind them. -/
theorem Tbs.join {w : World} {N n : Nat} {T M T' M' : Nat → Nat} {at_ at' : Nat → Int} {L L' : Nat → Nat} {K X K' X' : Nat → Nat → V} (h : Tbs w N T M at_ L K X) (h' : Tbs w n T' M' at' L' K' X') (hg : Good N L X) (hg' : Good n L' X') (hne : ∀ i j, i < N → j < n → T i ≠ T' j) :
    Tbs w (N + n) (jn N T T') (jn N M M') (jn N at_ at') (jn N L L') (jn N K K') (jn N X (fun j c => sh N (X' j c))) := by
  refine ⟨fun j hj => ?_, fun j hj => ?_, fun i j hi hj e => ?_, fun j hj l hl v hv => ?_⟩
  rotate_left 3
  · by_cases e : j < N
    · rw [jn_lt e] at hl
      rw [jn_lt e, jn_lt e] at hv
      exact h.gone j e l hl v hv
    · rw [jn_ge e] at hl
      rw [jn_ge e, jn_ge e] at hv
      exact h'.gone (j - N) (by omega) l hl v hv
  · by_cases e : j < N
    · simp only [jn_lt e]
      exact h.tab j e
    · simp only [jn_ge e]
      exact h'.tab (j - N) (by omega)
  · by_cases e : j < N
    · simp only [jn_lt e]
      obtain ⟨l, h1, h2⟩ := h.map j e
      refine ⟨l, h1, fun c hc => (h2 c hc).trans (congrArg some (ifv_congr (hg j e c hc) (fun h4 => ?_)))⟩
      obtain ⟨a0, a1⟩ := isV_tab (hg j e c hc) h4
      rw [jn_lt (by omega)]
    · simp only [jn_ge e]
      obtain ⟨l, h1, h2⟩ := h'.map (j - N) (by omega)
      exact ⟨l, h1, fun c hc => (h2 c hc).trans (congrArg some (ifv_sh (hg' (j - N) (by omega) c hc) (fun q _ => jn_add q)))⟩
  · by_cases e1 : i < N
    · by_cases e2 : j < N
      · rw [jn_lt e1, jn_lt e2] at e
        exact h.inj i j e1 e2 e
      · rw [jn_lt e1, jn_ge e2] at e
        exact absurd e (hne i (j - N) e1 (by omega))
    · by_cases e2 : j < N
      · rw [jn_ge e1, jn_lt e2] at e
        exact absurd e.symm (hne j (i - N) e2 (by omega))
      · rw [jn_ge e1, jn_ge e2] at e
        have := h'.inj (i - N) (j - N) (by omega) (by omega) e
        omega

theorem Ap.join {w : World} {base base' N n : Nat} {T M T' M' : Nat → Nat} (h : Ap w base N T M) (h' : Ap w base' n T' M') (hb : base ≤ base') (hs : ∀ j a o g, j < N → TabB w (T j) (M j) a o → o.ownBlock = some g → g < base') (hm : ∀ j, j < N → M j < base') : Ap w base (N + n) (jn N T T') (jn N M M') := by
  refine ⟨fun j hj => ?_, fun j a o g hj ht hg => ?_, fun i j a o a' o' g hi hj h1 h2 g1 g2 => ?_, fun j hj => ?_, fun i j hi hj h12 => ?_⟩
  · by_cases e : j < N
    · rw [jn_lt e]; exact h.lo j e
    · rw [jn_ge e]; exact Nat.le_trans hb (h'.lo (j - N) (by omega))
  · by_cases e : j < N
    · rw [jn_lt e, jn_lt e] at ht; exact h.own j a o g e ht hg
    · rw [jn_ge e, jn_ge e] at ht; exact Nat.le_trans hb (h'.own (j - N) a o g (by omega) ht hg)
  · by_cases e1 : i < N
    · rw [jn_lt e1, jn_lt e1] at h1
      by_cases e2 : j < N
      · rw [jn_lt e2, jn_lt e2] at h2
        exact h.one i j a o a' o' g e1 e2 h1 h2 g1 g2
      · rw [jn_ge e2, jn_ge e2] at h2
        have := hs i a o g e1 h1 g1
        have := h'.own (j - N) a' o' g (by omega) h2 g2
        omega
    · rw [jn_ge e1, jn_ge e1] at h1
      by_cases e2 : j < N
      · rw [jn_lt e2, jn_lt e2] at h2
        have := hs j a' o' g e2 h2 g2
        have := h'.own (i - N) a o g (by omega) h1 g1
        omega
      · rw [jn_ge e2, jn_ge e2] at h2
        have := h'.one (i - N) (j - N) a o a' o' g (by omega) (by omega) h1 h2 g1 g2
        omega
  · by_cases e : j < N
    · rw [jn_lt e]; exact h.mlo j e
    · rw [jn_ge e]; exact Nat.le_trans hb (h'.mlo (j - N) (by omega))
  · by_cases e1 : i < N
    · rw [jn_lt e1] at h12
      by_cases e2 : j < N
      · rw [jn_lt e2] at h12
        exact h.mone i j e1 e2 h12
      · rw [jn_ge e2] at h12
        have := hm i e1
        have := h'.mlo (j - N) (by omega)
        omega
    · rw [jn_ge e1] at h12
      by_cases e2 : j < N
      · rw [jn_lt e2] at h12
        have := hm j e2
        have := h'.mlo (i - N) (by omega)
        omega
      · rw [jn_ge e2] at h12
        have := h'.mone (i - N) (j - N) (by omega) (by omega) h12
        omega

/-- One place changed. -/
def upd {α : Type} (f : Nat → α) (r : Nat) (x : α) (j : Nat) : α := if j = r then x else f j
theorem upd_same {α : Type} (f : Nat → α) (r : Nat) (x : α) : upd f r x r = x := by unfold upd; rw [if_pos rfl]
theorem upd_ne {α : Type} (f : Nat → α) {r j : Nat} (x : α) (h : j ≠ r) : upd f r x j = f j := by unfold upd; rw [if_neg h]

/-- A block of keys is no table. -/
theorem Tbs.keyNe {w : World} {n : Nat} {T M : Nat → Nat} {at_ : Nat → Int} {L : Nat → Nat} {K X : Nat → Nat → V} (h : Tbs w n T M at_ L K X) {r : Nat} (hr : r < n) {a : Int} {o : Value} {g : Nat} (ht : TabB w (T r) (M r) a o) (hg : o.ownBlock = some g) : (∀ j, j < n → T j ≠ g ∧ M j ≠ g) ∧ ∃ cur, w.heap[g]? = some (.cells cur 29 (0, 0)) := by
  obtain ⟨ord, h1, h2⟩ := h.tab r hr
  have e := h1.ord ht
  subst e
  obtain ⟨_, cur, hc⟩ := owns_type h2 hg
  refine ⟨fun j hj => ⟨fun e => ?_, fun e => ?_⟩, cur, hc⟩
  · obtain ⟨ord', k1, _⟩ := h.tab j hj
    unfold TabB at k1
    rw [e, hc] at k1
    cases k1
  · obtain ⟨l, k1, _⟩ := h.map j hj
    obtain ⟨es, clk, hb, _⟩ := k1
    rw [e, hc] at hb
    cases hb

/-- An order is sorted. -/
theorem Tbs.sorted {w w' : World} {base n : Nat} {T M : Nat → Nat} {at_ : Nat → Int} {L : Nat → Nat} {K X : Nat → Nat → V} (h : Tbs w n T M at_ L K X) (hp : Ap w base n T M) {r : Nat} (hr : r < n) {a : Int} {o : Value} {g : Nat} (ht : TabB w (T r) (M r) a o) (hg : o.ownBlock = some g) {ls : List Nat} (hS : SortI (K r) (L r) ls) (hO : w'.ownsRow 0 29 4 o (L r) (keyCells (keys (byI (K r) ls) (L r)))) (ho : Only (fun k => k = g) w w') :
    Tbs w' n T M at_ L (upd K r (byI (K r) ls)) (upd X r (byI (X r) ls)) ∧ Ap w' base n T M := by
  obtain ⟨hne, _⟩ := h.keyNe hr ht hg
  have hT : ∀ j, j < n → w'.heap[T j]? = w.heap[T j]? := fun j hj => ho.block _ (h.lt hj) (hne j hj).1
  refine ⟨⟨fun j hj => ?_, fun j hj => ?_, h.inj, fun j hj l hl v hv => ?_⟩, hp.same hT⟩
  rotate_left 2
  · obtain ⟨l0, h1, _⟩ := h.map j hj
    have hl' : MapIs w (M j) l := hl.same (ho.block _ h1.lt (hne j hj).2).symm
    refine h.gone j hj l hl' v (fun c hc => ?_)
    by_cases e : j = r
    · subst e
      rw [upd_same] at hv
      obtain ⟨q, hq, e2⟩ := List.mem_iff_getElem.1 (hS.perm.symm.subset (List.mem_range.2 hc))
      have := hv q (by rw [← hS.len]; exact hq)
      unfold byI at this
      rw [List.getD_eq_getElem?_getD, List.getElem?_eq_getElem hq, e2] at this
      exact this
    · rw [upd_ne K _ e] at hv
      exact hv c hc
  · obtain ⟨ord, h1, h2⟩ := h.tab j hj
    by_cases e : j = r
    · subst e
      have e := h1.ord ht
      subst e
      rw [upd_same]
      exact ⟨ord, (hT j hj).trans h1, hO⟩
    · rw [upd_ne K _ e]
      exact ⟨ord, (hT j hj).trans h1, ho.ownsB h2 (fun g' hg' e' => e (by subst e'; exact hp.one j r _ _ _ _ _ hj hr h1 ht hg' hg))⟩
  · obtain ⟨l, h1, h2⟩ := h.map j hj
    refine ⟨l, h1.same (ho.block _ h1.lt (hne j hj).2), fun c hc => ?_⟩
    by_cases e : j = r
    · subst e
      rw [upd_same, upd_same]
      exact h2 _ (hS.lt hc)
    · rw [upd_ne K _ e, upd_ne X _ e]
      exact h2 c hc

theorem Ap.setAt {w : World} {base n : Nat} {T M : Nat → Nat} {at_ : Nat → Int} {L : Nat → Nat} {K X : Nat → Nat → V} (hp : Ap w base n T M) (h : Tbs w n T M at_ L K X) {r : Nat} (hr : r < n) (i : Int) : Ap (w.setCell ⟨T r, 0, none⟩ (.int .i64 i)) base n T M := by
  have old : ∀ j a o, j < n → TabB (w.setCell ⟨T r, 0, none⟩ (.int .i64 i)) (T j) (M j) a o → TabB w (T j) (M j) (at_ j) o := fun j a o hj h' => by
    obtain ⟨ord, h1, _⟩ := h.tab j hj
    by_cases e : j = r
    · subst e
      have k2 : TabB (w.setCell ⟨T j, 0, none⟩ (.int .i64 i)) (T j) (M j) i ord := by
        unfold TabB at h1 ⊢
        simp [World.setCell, Array.getElem?_modify, h1]
      rw [← k2.ord h']
      exact h1
    · have k2 : TabB (w.setCell ⟨T r, 0, none⟩ (.int .i64 i)) (T j) (M j) (at_ j) ord := (Below.heap_setCell _ _ _ _ (show T j ≠ T r from fun x => e (h.inj j r hj hr x))).trans h1
      rw [← k2.ord h']
      exact h1
  exact ⟨hp.lo, fun j a o g hj ht hg => hp.own j _ o g hj (old j a o hj ht) hg, fun i j a o a' o' g hi hj h1 h2 g1 g2 => hp.one i j _ o _ o' g hi hj (old i a o hi h1) (old j a' o' hj h2) g1 g2, hp.mlo, hp.mone⟩

end Go.Proofs.Ytgflalfiopnmnab

namespace Go.Proofs.Ytgflalfiopnmnab
open Go.RowKit Vl

/-- What a table looks like: its class, and a hundred numbers. -/
structure Lk where
  was : Nat
  parts : Nat → Nat

def lkCells (l : Lk) : List Value := .int .i64 (l.was : Nat) :: (List.range 100).map fun i => .int .u16 (l.parts i : Nat)
theorem lkCells_len (l : Lk) : (lkCells l).length = 101 := by simp [lkCells]
abbrev lkV (l : Lk) : Value := .agg (lkCells l).toArray
def lkEq (a b : Lk) : Bool := a.was == b.was && (List.range 100).all fun i => a.parts i == b.parts i
theorem lkEq_iff {a b : Lk} : lkEq a b = true ↔ a.was = b.was ∧ ∀ i, i < 100 → a.parts i = b.parts i := by
  simp [lkEq]

theorem look_chk (em : Bool) (l : Lk) (w : World) : (Instr.checkKey em 10000 180 (lkV l)).run Try.prog w = .ok () w := by
  kernel_rfl

theorem isAgg_no {t : TypeId} {k : IntKind} (h : Try.prog.underlying t = some (.int k)) (w : World) : (isAgg t).run Try.prog w = .ok false w := by
  unfold isAgg
  rw [Sem.run_bind, run_underlying h w]
  rfl

theorem eq_items (d : Nat) (xs ys : Array Value) (p q : Nat → Nat) (w : World) : ∀ is : List Nat, (∀ i ∈ is, xs[i]? = some (.int .u16 (p i : Nat)) ∧ ys[i]? = some (.int .u16 (q i : Nat))) → (Op.eqItems (d + 1) 177 1 xs ys is).run Try.prog w = .ok (is.all fun i => p i == q i) w
  | [], _ => rfl
  | i :: is, h => by
    obtain ⟨h1, h2⟩ := h i (by simp)
    have e1 : (part 177 xs (i * 1)).run Try.prog w = .ok (.int .u16 (p i : Nat)) w := by
      unfold part
      rw [Sem.run_bind, isAgg_no Try.underlying177]
      simp [h1]
    have e2 : (part 177 ys (i * 1)).run Try.prog w = .ok (.int .u16 (q i : Nat)) w := by
      unfold part
      rw [Sem.run_bind, isAgg_no Try.underlying177]
      simp [h2]
    have ih := eq_items d xs ys p q w is (fun j hj => h j (by simp [hj]))
    simp only [Op.eqItems, Sem.run_bind, e1, e2, Result.andThen_ok, run_equalIn_int w d 177 .u16 .u16 _ _ Try.underlying177]
    have hb : ((p i : Int) == (q i : Int)) = (p i == q i) := by
      by_cases e : p i = q i
      · rw [e, beq_self_eq_true, beq_self_eq_true]
      · have e' : ¬ ((p i : Int) = (q i : Int)) := by omega
        rw [beq_false_of_ne e, beq_false_of_ne e']
    rw [hb]
    cases hc : p i == q i
    · simp [hc]
    · simp only [Bool.not_true, Bool.false_eq_true, if_false, List.all_cons, hc, Bool.true_and]
      exact ih

theorem lk_at0 (l : Lk) : (lkCells l).toArray[0]? = some (.int .i64 (l.was : Nat)) := by simp [lkCells]
theorem lk_part (l : Lk) (i : Nat) (hi : i < 100) : ((lkCells l).toArray.extract 1 101)[i]? = some (.int .u16 (l.parts i : Nat)) := by
  rw [Array.getElem?_extract, if_pos (by simp [lkCells]; omega)]
  have e : (lkCells l)[1 + i]? = some (.int .u16 (l.parts i : Nat)) := by
    rw [Nat.add_comm]
    simp [lkCells, hi]
  simpa using e

theorem eq_arr (d : Nat) (xs ys : Array Value) (p q : Nat → Nat) (w : World) (h : ∀ i, i < 100 → xs[i]? = some (.int .u16 (p i : Nat)) ∧ ys[i]? = some (.int .u16 (q i : Nat))) : (Op.equalIn (d + 2) 178 (.agg xs) (.agg ys)).run Try.prog w = .ok ((List.range 100).all fun i => p i == q i) w := by
  obtain ⟨iu, hiu⟩ : ∃ iu, Try.prog.info? 177 = some iu := by
    have h : (Try.prog.info? 177).isSome = true := by kernel_rfl
    exact Option.isSome_iff_exists.1 h
  have hcell : Try.prog.cellsOf 177 = 1 := by kernel_rfl
  rw [run_equalIn_array w (d + 1) xs ys Try.underlying178 hiu, hcell]
  exact eq_items d xs ys p q w _ (fun i hi => h i (List.mem_range.1 hi))

theorem part_int (xs : Array Value) (u : Value) (w : World) (h : xs[0]? = some u) : (part 3 xs 0).run Try.prog w = .ok u w := by
  unfold part
  rw [Sem.run_bind, isAgg_no Try.underlying3]
  simp [h]
theorem part_arr (xs : Array Value) (w : World) : (part 178 xs 1).run Try.prog w = .ok (.agg (xs.extract 1 (1 + 100))) w := by
  have h1 : (isAgg 178).run Try.prog w = .ok true w := by kernel_rfl
  have h2 : (sizeOf 178).run Try.prog w = .ok 100 w := by kernel_rfl
  unfold part
  rw [Sem.run_bind, h1]
  simp only [Result.andThen_ok, if_true, Sem.run_bind, h2, Sem.run_pure]

theorem eq_look (d : Nat) (xs ys : Array Value) (u v : Nat) (p q : Nat → Nat) (w : World) (hu : xs[0]? = some (.int .i64 (u : Nat))) (hv : ys[0]? = some (.int .i64 (v : Nat))) (h : ∀ i, i < 100 → (xs.extract 1 (1 + 100))[i]? = some (.int .u16 (p i : Nat)) ∧ (ys.extract 1 (1 + 100))[i]? = some (.int .u16 (q i : Nat))) :
    (Op.equalIn (d + 3) 180 (.agg xs) (.agg ys)).run Try.prog w = .ok (u == v && (List.range 100).all fun i => p i == q i) w := by
  rw [run_equalIn_struct w (d + 2) 180 xs ys (by kernel_rfl) (by kernel_rfl)]
  have hf : (Try.prog.fieldsOf 180).toList.map (fun f => (f.name == "_", f.type, f.offset)) = [(false, 3, 0), (false, 178, 1)] := by kernel_rfl
  generalize (Try.prog.fieldsOf 180).toList = fs at hf
  obtain ⟨f, g, rfl⟩ : ∃ f g, fs = [f, g] := by
    cases fs with
    | nil => simp at hf
    | cons f fs =>
      cases fs with
      | nil => simp at hf
      | cons g fs =>
        cases fs with
        | nil => exact ⟨f, g, rfl⟩
        | cons => simp at hf
  simp only [List.map_cons, List.map_nil, List.cons.injEq, Prod.mk.injEq, and_true] at hf
  obtain ⟨⟨f1, f2, f3⟩, ⟨g1, g2, g3⟩⟩ := hf
  have f1' : f.name ≠ "_" := by simpa using f1
  have g1' : g.name ≠ "_" := by simpa using g1
  have hb : ((u : Int) == (v : Int)) = (u == v) := by
    by_cases e : u = v
    · rw [e, beq_self_eq_true, beq_self_eq_true]
    · have e' : ¬ ((u : Int) = (v : Int)) := by omega
      rw [beq_false_of_ne e, beq_false_of_ne e']
  have e3 := eq_arr d _ _ p q w h
  generalize (List.range 100).all (fun i => p i == q i) = r at e3 ⊢
  have e4 : (Op.eqFields (d + 2) xs ys [g]).run Try.prog w = .ok r w := by
    unfold Op.eqFields
    rw [if_pos g1', g2, g3]
    simp only [Sem.run_bind, part_arr, Result.andThen_ok, e3]
    cases r
    · simp only [Bool.not_false, if_true, Sem.run_pure]
    · simp only [Bool.not_true, Bool.false_eq_true, if_false, Op.eqFields, Sem.run_pure]
  unfold Op.eqFields
  rw [if_pos f1', f2, f3]
  simp only [Sem.run_bind, part_int xs _ w hu, part_int ys _ w hv, Result.andThen_ok, run_equalIn_int w (d + 1) 3 .i64 .i64 _ _ Try.underlying3, hb]
  cases u == v
  · simp only [Bool.not_false, if_true, Bool.false_and, Sem.run_pure]
  · simp only [Bool.not_true, Bool.false_eq_true, if_false, Bool.true_and]
    exact e4

theorem look_eq (a b : Lk) (w : World) : (Op.equal 180 (lkV a) (lkV b)).run Try.prog w = .ok (lkEq a b) w :=
  eq_look 9997 (lkCells a).toArray (lkCells b).toArray a.was b.was a.parts b.parts w (lk_at0 a) (lk_at0 b) (fun i hi => ⟨lk_part a i hi, lk_part b i hi⟩)

theorem look_keyed : Keyed 206 180 3 lkV (fun _ _ => True) lkEq (.int .i64 0) where
  und := Try.underlying206
  eq := fun u v w _ _ => look_eq u v w
  chk := fun em v w => look_chk em v w
  now := ⟨_, Try.underlying180, fun u v => rfl⟩
  zero := fun w => by kernel_rfl

end Go.Proofs.Ytgflalfiopnmnab

namespace Go.Proofs.Ytgflalfiopnmnab
open Go.RowKit Vl

instance instV : BEq V := ⟨eqV⟩
instance instLV : LawfulBEq V where
  eq_of_beq h := eqV_iff.1 h
  rfl := eqV_iff.2 rfl

abbrev PV2 := V × V
abbrev pAgg (p : PV2) : Value := .agg #[.int .i64 p.1.k, .int .i64 p.1.n, .string p.1.s, .int .i64 p.1.a, .int .i64 p.2.k, .int .i64 p.2.n, .string p.2.s, .int .i64 p.2.a]

theorem eqIn_val (d : Nat) (u v : V) (w : World) : (Op.equalIn (d + 2) 29 (vAgg u) (vAgg v)).run Try.prog w = .ok (eqV u v) w := by
  go_simp
  by_cases h1 : u.k = v.k <;> by_cases h2 : u.n = v.n <;> by_cases h3 : u.s.toList = v.s.toList <;> by_cases h4 : u.a = v.a <;> simp [eqV, h1, h2, h3, h4]

theorem part_val (p : PV2) (w : World) : (part 29 #[.int .i64 p.1.k, .int .i64 p.1.n, .string p.1.s, .int .i64 p.1.a, .int .i64 p.2.k, .int .i64 p.2.n, .string p.2.s, .int .i64 p.2.a] 0).run Try.prog w = .ok (vAgg p.1) w ∧ (part 29 #[.int .i64 p.1.k, .int .i64 p.1.n, .string p.1.s, .int .i64 p.1.a, .int .i64 p.2.k, .int .i64 p.2.n, .string p.2.s, .int .i64 p.2.a] 4).run Try.prog w = .ok (vAgg p.2) w := by
  constructor <;> kernel_rfl

theorem eq_pair (d : Nat) (p q : PV2) (w : World) : (Op.equalIn (d + 3) 63 (pAgg p) (pAgg q)).run Try.prog w = .ok (p == q) w := by
  rw [run_equalIn_struct w (d + 2) 63 _ _ (by kernel_rfl) (by kernel_rfl)]
  have hf : (Try.prog.fieldsOf 63).toList.map (fun f => (f.name == "_", f.type, f.offset)) = [(false, 29, 0), (false, 29, 4)] := by kernel_rfl
  generalize (Try.prog.fieldsOf 63).toList = fs at hf
  obtain ⟨f, g, rfl⟩ : ∃ f g, fs = [f, g] := by
    cases fs with
    | nil => simp at hf
    | cons f fs =>
      cases fs with
      | nil => simp at hf
      | cons g fs =>
        cases fs with
        | nil => exact ⟨f, g, rfl⟩
        | cons => simp at hf
  simp only [List.map_cons, List.map_nil, List.cons.injEq, Prod.mk.injEq, and_true] at hf
  obtain ⟨⟨f1, f2, f3⟩, ⟨g1, g2, g3⟩⟩ := hf
  have f1' : f.name ≠ "_" := by simpa using f1
  have g1' : g.name ≠ "_" := by simpa using g1
  have e4 : (Op.eqFields (d + 2) #[.int .i64 p.1.k, .int .i64 p.1.n, .string p.1.s, .int .i64 p.1.a, .int .i64 p.2.k, .int .i64 p.2.n, .string p.2.s, .int .i64 p.2.a] #[.int .i64 q.1.k, .int .i64 q.1.n, .string q.1.s, .int .i64 q.1.a, .int .i64 q.2.k, .int .i64 q.2.n, .string q.2.s, .int .i64 q.2.a] [g]).run Try.prog w = .ok (eqV p.2 q.2) w := by
    unfold Op.eqFields
    rw [if_pos g1', g2, g3]
    simp only [Sem.run_bind, (part_val p w).2, (part_val q w).2, Result.andThen_ok, eqIn_val d]
    cases eqV p.2 q.2
    · simp only [Bool.not_false, if_true, Sem.run_pure]
    · simp only [Bool.not_true, Bool.false_eq_true, if_false, Op.eqFields, Sem.run_pure]
  have e5 : (p == q) = (eqV p.1 q.1 && eqV p.2 q.2) := rfl
  rw [e5]
  unfold Op.eqFields
  rw [if_pos f1', f2, f3]
  simp only [Sem.run_bind, (part_val p w).1, (part_val q w).1, Result.andThen_ok, eqIn_val d]
  cases eqV p.1 q.1
  · simp only [Bool.not_false, if_true, Bool.false_and, Sem.run_pure]
  · simp only [Bool.not_true, Bool.false_eq_true, if_false, Bool.true_and]
    exact e4

theorem pair_keyed : Keyed 175 63 177 pAgg (fun _ _ => True) (fun p q => p == q) (.int .u16 0) where
  und := Try.underlying175
  eq := fun u v w _ _ => eq_pair 9997 u v w
  chk := fun em v w => by kernel_rfl
  now := ⟨_, Try.underlying63, fun u v => rfl⟩
  zero := fun w => by kernel_rfl

/-- Numbered pairs. -/
def knM (kn : List PV2) (s : Nat) : List (PV2 × Value) := (kn.zipIdx s).map fun p => (p.1, .int .u16 ((p.2 + 1 : Nat) : Int))
theorem knM_snoc (kn : List PV2) (p : PV2) (s : Nat) : knM (kn ++ [p]) s = knM kn s ++ [(p, .int .u16 ((s + kn.length + 1 : Nat) : Int))] := by
  unfold knM
  rw [List.zipIdx_append]
  simp
theorem knM_len (kn : List PV2) (s : Nat) : (knM kn s).length = kn.length := by simp [knM]
theorem knM_find (p : PV2) : ∀ (kn : List PV2) (s : Nat), findG (fun p q => p == q) p (knM kn s) = if p ∈ kn then some (.int .u16 ((s + kn.idxOf p + 1 : Nat) : Int)) else none
  | [], s => rfl
  | q :: kn, s => by
    have ih := knM_find p kn (s + 1)
    have e : knM (q :: kn) s = (q, .int .u16 ((s + 1 : Nat) : Int)) :: knM kn (s + 1) := rfl
    rw [e]
    simp only [findG]
    by_cases h : p = q
    · subst h
      rw [if_pos (by simp), if_pos (by simp)]
      simp
    · rw [if_neg (by simpa using h), ih]
      by_cases hm : p ∈ kn
      · rw [if_pos hm, if_pos (by simp [hm])]
        have hq : (q == p) = false := by simpa using fun e => h e.symm
        rw [List.idxOf_cons, hq]
        simp only [cond_false]
        congr 3
        omega
      · rw [if_neg hm, if_neg (by simp [hm, h])]

/-- A pair more. -/
def addTo (kn : List PV2) (p : PV2) : List PV2 := if p ∈ kn then kn else kn ++ [p]
theorem addTo_pre (kn : List PV2) (p : PV2) : kn <+: addTo kn p := by
  unfold addTo
  split
  · exact List.prefix_refl _
  · exact List.prefix_append _ _
theorem addTo_mem (kn : List PV2) (p : PV2) : p ∈ addTo kn p := by
  unfold addTo
  split
  · assumption
  · simp
theorem addTo_len (kn : List PV2) (p : PV2) : (addTo kn p).length ≤ kn.length + 1 := by
  unfold addTo
  split
  · omega
  · simp
/-- Pairs one after another. -/
def kns (kn : List PV2) (pr : Nat → PV2) : Nat → List PV2
  | 0 => kn
  | c + 1 => addTo (kns kn pr c) (pr c)
theorem kns_pre (kn : List PV2) (pr : Nat → PV2) : ∀ {c d : Nat}, c ≤ d → kns kn pr c <+: kns kn pr d := by
  intro c d h
  induction h with
  | refl => exact List.prefix_refl _
  | step _ ih => exact ih.trans (addTo_pre _ _)
theorem kns_mem (kn : List PV2) (pr : Nat → PV2) {c d : Nat} (h : c < d) : pr c ∈ kns kn pr d := (kns_pre kn pr (show c + 1 ≤ d from h)).subset (addTo_mem _ _)
theorem kns_len (kn : List PV2) (pr : Nat → PV2) : ∀ c, (kns kn pr c).length ≤ kn.length + c
  | 0 => Nat.le_refl _
  | c + 1 => by have := kns_len kn pr c; have := addTo_len (kns kn pr c) (pr c); show (addTo (kns kn pr c) (pr c)).length ≤ _; omega
theorem idx_pre {kn kn' : List PV2} (h : kn <+: kn') {p : PV2} (hp : p ∈ kn) : kn'.idxOf p = kn.idxOf p := by
  obtain ⟨t, rfl⟩ := h
  rw [List.idxOf_append, if_pos hp]

end Go.Proofs.Ytgflalfiopnmnab
