import Derived.Test.YtgflalfiopnmnaaDoorSoBy
import Derived.Test.YtgflalfiopnmnaaDoorRkCopy
namespace Go.Proofs.YtgflalfiopnmnaaDoor
open Go.RowKit Rk So

/-- What a sort of a square gives: its code, its order, its questions. -/
def Out (n : Nat) (L : Nat → Nat) (M : Nat → Nat → Int) (code : Int) (o : List Nat) (q : List (Nat × Nat)) : Prop :=
  (¬ Sq n L M ∧ code = 1 ∧ o = [] ∧ q = []) ∨ (Sq n L M ∧ sorted M n = (q, some o) ∧ code = 0) ∨ (Sq n L M ∧ sorted M n = (q, none) ∧ code = 2 ∧ o = [])

theorem Out.same {n : Nat} {L : Nat → Nat} {M : Nat → Nat → Int} {c c' : Int} {o o' : List Nat} {q q' : List (Nat × Nat)} (h : Out n L M c o q) (h' : Out n L M c' o' q') : c = c' ∧ o = o' ∧ q = q' := by
  rcases h with ⟨s, h1, h2, h3⟩ | ⟨s, e, h1⟩ | ⟨s, e, h1, h2⟩ <;> rcases h' with ⟨s', g1, g2, g3⟩ | ⟨s', e', g1⟩ | ⟨s', e', g1, g2⟩
  · exact ⟨h1.trans g1.symm, h2.trans g2.symm, h3.trans g3.symm⟩
  · exact absurd s' s
  · exact absurd s' s
  · exact absurd s s'
  · rw [e] at e'; cases e'; exact ⟨h1.trans g1.symm, rfl, rfl⟩
  · rw [e] at e'; cases e'
  · exact absurd s s'
  · rw [e] at e'; cases e'
  · rw [e] at e'; cases e'; exact ⟨h1.trans g1.symm, h2.trans g2.symm, rfl⟩

/-- The answer of a sort in memory: all of it new. -/
structure SortRes (w w' : World) (ov av : Value) (o : List Nat) (q : List (Nat × Nat)) : Prop where
  bel : Below w.heap.size w w'
  ord : w'.ownsRow w.heap.size 3 1 ov o.length (ints o)
  ask : w'.ownsRow w.heap.size 53 2 av q.length (askCells q)

/-- A store into a cell of the result's block. -/
theorem SortRes.setD {w w' : World} {ov av : Value} {o : List Nat} {q : List (Nat × Nat)} (h : SortRes w w' ov av o q) {D off : Nat} {c : Array Value} {m : Nat × Nat} (hD : w'.heap[D]? = some (.cells c 28 m)) (hw : w.heap.size ≤ D) (u : Value) :
    SortRes w (w'.setCell ⟨D, off, none⟩ u) ov av o q ∧ ∃ c', (w'.setCell ⟨D, off, none⟩ u).heap[D]? = some (.cells c' 28 m) := by
  refine ⟨⟨h.bel.setCell hw u, ownsRow_setCell_other h.ord (fun e => ?_) u, ownsRow_setCell_other h.ask (fun e => ?_) u⟩, ?_⟩
  · rcases h.ord.2 with ⟨rfl, _⟩ | ⟨g, cap, cur, rfl, _, hh, _⟩
    · simp [Value.ownBlock] at e
    · simp [Value.ownBlock] at e; exact ne_of_types hh hD (by decide) e
  · rcases h.ask.2 with ⟨rfl, _⟩ | ⟨g, cap, cur, rfl, _, hh, _⟩
    · simp [Value.ownBlock] at e
    · simp [Value.ownBlock] at e; exact ne_of_types hh hD (by decide) e
  · exact ⟨c.setIfInBounds off u, by simp [World.setCell, Array.getElem?_modify, hD]⟩

/-- The answer is laid into its three cells. -/
theorem SortRes.laid {w w' : World} {ov av : Value} {o : List Nat} {q : List (Nat × Nat)} (h : SortRes w w' ov av o q) {D : Nat} {a b c : Value} (hD : w'.heap[D]? = some (.cells #[a, b, c] 28 (0, 0))) (hw : w.heap.size ≤ D) (x y z : Value) :
    SortRes w (((w'.setCell ⟨D, 0, none⟩ x).setCell ⟨D, 1, none⟩ y).setCell ⟨D, 2, none⟩ z) ov av o q ∧ (((w'.setCell ⟨D, 0, none⟩ x).setCell ⟨D, 1, none⟩ y).setCell ⟨D, 2, none⟩ z).heap[D]? = some (.cells #[x, y, z] 28 (0, 0)) := by
  have e1 : (w'.setCell ⟨D, 0, none⟩ x).heap[D]? = some (.cells #[x, b, c] 28 (0, 0)) := by simp [World.setCell, Array.getElem?_modify, hD]
  have e2 : ((w'.setCell ⟨D, 0, none⟩ x).setCell ⟨D, 1, none⟩ y).heap[D]? = some (.cells #[x, y, c] 28 (0, 0)) := by
    show ((w'.setCell ⟨D, 0, none⟩ x).heap.modify D _)[D]? = _
    rw [Array.getElem?_modify, e1]; simp
  have e3 : (((w'.setCell ⟨D, 0, none⟩ x).setCell ⟨D, 1, none⟩ y).setCell ⟨D, 2, none⟩ z).heap[D]? = some (.cells #[x, y, z] 28 (0, 0)) := by
    show (((w'.setCell ⟨D, 0, none⟩ x).setCell ⟨D, 1, none⟩ y).heap.modify D _)[D]? = _
    rw [Array.getElem?_modify, e2]; simp
  exact ⟨(((h.setD hD hw x).1.setD e1 hw y).1.setD e2 hw z).1, e3⟩

theorem cell_at_block {w : World} {D : Nat} {c : Array Value} {t : TypeId} {m : Nat × Nat} (h : w.heap[D]? = some (.cells c t m)) (i : Nat) : w.cell? ⟨D, i, none⟩ = c[i]? := by simp [World.cell?, h]

theorem owns_mono {w : World} {b b' e size : Nat} {v : Value} {n : Nat} {xs : List Value} (h : w.ownsRow b e size v n xs) (hb : b' ≤ b) : w.ownsRow b' e size v n xs := by
  refine ⟨h.1, ?_⟩
  rcases h.2 with h2 | ⟨g, cap, cur, hv, hg, r⟩
  · exact Or.inl h2
  · exact Or.inr ⟨g, cap, cur, hv, Nat.le_trans hb hg, r⟩

theorem owns_ints {w : World} {R b n : Nat} {o : List Nat} (h : w.heap[R]? = some (.cells (ints o).toArray 3 (0, 0))) (hb : b ≤ R) (hn : o.length = n) (hm : n ≤ 200) : w.ownsRow b 3 1 (.slice (some ⟨R, 0, none⟩) n n) n (ints o) :=
  ⟨by simp [ints, hn], Or.inr ⟨R, n, _, rfl, hb, h, Nat.le_refl _, by unfold maxLen; omega, by simp [ints, hn], by simp only [Nat.mul_one, ints]; exact List.take_of_length_le (by simp [hn])⟩⟩

theorem owns_form {w : World} {b e size : Nat} {v : Value} {n : Nat} {xs : List Value} (h : w.ownsRow b e size v n xs) : ∃ ao cap, v = .slice ao n cap := by
  rcases h.2 with ⟨rfl, rfl⟩ | ⟨g, cap, cur, rfl, _⟩
  · exact ⟨_, _, rfl⟩
  · exact ⟨_, _, rfl⟩

/-- A row told by its cells is that row. -/
theorem block_of_rowIs {w : World} {R n : Nat} (h : w.rowIs R 3 n (fun c => .int .i64 (c : Nat))) : w.heap[R]? = some (.cells (ints (List.range n)).toArray 3 (0, 0)) := by
  obtain ⟨c, hb, hn, hc⟩ := h
  rw [hb]
  congr 2
  apply Array.ext
  · simp [ints, hn]
  · intro i h1 h2
    have := hc i (by omega)
    rw [Array.getElem?_eq_getElem h1] at this
    simp at this
    simp [ints, this]

/-- The script's box, and all that 'sortBy' asks. -/
theorem begin_sort {w wr : World} {hd : Value} {n : Nat} (hF : Fill (w.alloc (.cells #[.int .i64 0, .slice none 0 0, .slice none 0 0] 28)) wr 3 n n (.int .i64 0) (fun c => .int .i64 (c : Nat))) :
    SoE w (wr.alloc (.cells #[hd, .slice none 0 0] 43)) wr.heap.size (wr.heap.size + 1) (w.heap.size + 1) w.heap.size n hd [] (List.range n) := by
  have hs : wr.heap.size = w.heap.size + 1 + 1 := by have := hF.size; simpa using this
  have hr := block_of_rowIs hF.done
  have hb : Below w.heap.size w wr := ((Below.refl _ _).alloc (Nat.le_refl _) _).trans (hF.bel.mono (by simp))
  have hD : wr.heap[w.heap.size]? = some (.cells #[.int .i64 0, .slice none 0 0, .slice none 0 0] 28 (0, 0)) := by
    rw [hF.bel.block _ (by simp)]
    exact heap_alloc_new _ _
  have hr' : wr.heap[w.heap.size + 1]? = some (.cells (ints (List.range n)).toArray 3 (0, 0)) := by simpa using hr
  refine ⟨⟨hb.alloc (by omega) _, by omega, ⟨.slice none 0 0, ?_, World.ownsRow_nil _ _ _ _⟩, by omega, by simp⟩, ?_, ?_, by simp, by simp, by omega⟩
  · exact heap_alloc_new wr (.cells #[hd, .slice none 0 0] 43)
  · rw [Below.heap_alloc _ _ _ (by omega)]; exact hr'
  · rw [Below.heap_alloc _ _ _ (by omega)]; exact hD

set_option maxHeartbeats 2000000 in
/-- 'impl.Sort'. -/
theorem implSort_any (w : World) (ga : Option Addr) (gb go n cp : Nat) (A : Nat → Option Addr) (L C RB RO : Nat → Nat) (M : Nat → Nat → Int) (ea : Addr)
    (hga : 0 < n → ga = some ⟨gb, go, none⟩) (hn : n ≤ 1048576) (HL : Hid (∀ r, r < n → L r ≤ 1048576)) (HM : Hid (MatR w gb go n A L C RB RO M)) (HE : Hid (w.cell? ⟨0, 0, none⟩ = some (.iface 74 (.pointer (some ea))))) :
    Calls Tryd.prog 7 #[.slice ga n cp] w fun e w' => ∃ (code : Int) (o : List Nat) (q : List (Nat × Nat)) (ov av : Value), Hid (Out n L M code o q) ∧ e = .returned (.agg #[.int .i64 code, ov, av]) ∧ SortRes w w' ov av o q := by
  have hmf : ∀ (fn : Fn) (first cap : Array Value) (w : World), (Instr.makeFunc fn first cap).run Tryd.prog w = .ok (.func fn first cap) w := fun _ _ _ _ => rfl
  have hb0 : Below w.heap.size w (w.alloc (.cells #[.int .i64 0, .slice none 0 0, .slice none 0 0] 28)) := (Below.refl _ _).alloc (Nat.le_refl _) _
  go_enter Tryd.func7, Tryd.ntmps7
  go_wp2_with fail
  refine (implSq_any ga gb go n cp A L C RB RO M _ hga hn HL.out (HM.out.below hb0)).mono ?_
  rintro e w1 ⟨⟨b, rfl, hb⟩, hw1⟩
  subst hw1
  cases b
  · have hno : Hid (¬ Sq n L M) := by show ¬ Sq n L M; simpa using hb
    clear hb hmf hb0
    go_wp2
    refine bodyPost_ret (v := .agg #[.int .i64 1, .slice none 0 0, .slice none 0 0]) (by simp [results, Tryd.results7, go_sem]) rfl ⟨1, [], [], .slice none 0 0, .slice none 0 0, Or.inl ⟨hno.out, rfl, rfl, rfl⟩, rfl, (Below.refl _ _).alloc (Nat.le_refl _) _, World.ownsRow_nil _ _ _ _, World.ownsRow_nil _ _ _ _⟩
  · have hs : Sq n L M := by simpa using hb
    have h200 : n ≤ 200 := hs.1
    have HS : Hid (Sq n L M) := hs
    clear hb hs hb0
    have hmk := run_make_row' (P := Tryd.prog) 25 3 (.int .i64 0) 8 Tryd.underlying25 Tryd.info3 rfl .i64 .i64 n (by omega) (by omega)
    have es : (w.alloc (.cells #[.int .i64 0, .slice none 0 0, .slice none 0 0] 28)).heap.size = w.heap.size + 1 := by simp
    have Es : Hid _ := es
    clear es
    go_wp2
    clear hmk
    go_loopw [16] (fun i wr => ∃ k : Nat, k ≤ n ∧ i = .int .i64 k ∧ Hid (Fill (w.alloc (.cells #[.int .i64 0, .slice none 0 0, .slice none 0 0] 28)) wr 3 n k (.int .i64 0) (fun c => .int .i64 (c : Nat)))) (fun i _ => n - (intOf i).toNat)
    case atStart => exact ⟨0, Nat.zero_le _, rfl, Fill.start _ _ _ _ _⟩
    case round =>
      obtain ⟨k, hk, rfl, HF⟩ := hrel
      by_cases hlt : k < n
      · have ho := HF.out.cellAt hlt
        have hz := HF.out.row.frozen k
        have hn' := HF.out.step
        rw [Es.out] at ho hz hn'
        have HN : Hid _ := hn'
        clear hn' HF
        go_wp2
        go_roundw
        case rel => exact ⟨k + 1, by omega, by go_num, HN.out⟩
        case measure => simp [intOf]; omega
      · obtain rfl : k = n := by omega
        have hwr : wr.heap.size = w.heap.size + 1 + 1 := by have := HF.out.size; rw [Es.out] at this; exact this
        have Hwr : Hid _ := hwr
        clear hwr
        have hby := by_any w _ wr.heap.size (wr.heap.size + 1) (w.heap.size + 1) w.heap.size ga gb go k cp A L C RB RO M (List.range k) ea hga HS HM HE (begin_sort HF.out)
        obtain ⟨V, hV⟩ : ∃ V, all M k 1 (List.range k) [] = V := ⟨_, rfl⟩
        rw [hV] at hby
        have HV : Hid (sorted M k = V) := hV
        clear hV
        obtain ⟨q, r⟩ := V
        go_wp2_with fail
        refine hby.mono ?_
        clear hby
        rintro e w3 hend
        cases r with
        | some o =>
          obtain ⟨he, hT⟩ := hend
          subst he
          obtain ⟨v, hv, hown⟩ := hT.inv.st
          obtain ⟨ao, ac, rfl⟩ := owns_form hown
          have c1 : w3.cell? ⟨wr.heap.size, 1, none⟩ = some (.slice ao q.length ac) := by simp [World.cell?, hv]
          have d0 : w3.cell? ⟨w.heap.size, 0, none⟩ = some (.int .i64 0) := by simp [World.cell?, hT.db]
          have d1 : w3.cell? ⟨w.heap.size, 1, none⟩ = some (.slice none 0 0) := by simp [World.cell?, hT.db]
          have d2 : w3.cell? ⟨w.heap.size, 2, none⟩ = some (.slice none 0 0) := by simp [World.cell?, hT.db]
          have f0 : ∀ i, w3.frozen? ⟨w.heap.size, i, none⟩ = false := fun i => by simp [World.frozen?, hT.db]
          have hR : Hid (SortRes w w3 (.slice (some ⟨w.heap.size + 1, 0, none⟩) k k) (.slice ao q.length ac) o q) := by
            refine ⟨hT.inv.bel, ?_, owns_mono hown (by have := Hwr.out; omega)⟩
            rw [hT.len]
            exact owns_ints hT.row (by omega) hT.len h200
          have HD : Hid _ := hT.db
          clear hT hv hown HF
          go_wp2
          obtain ⟨hR2, hD2⟩ := hR.out.laid HD.out (Nat.le_refl _) (.int .i64 0) (.slice (some ⟨w.heap.size + 1, 0, none⟩) k k) (.slice ao q.length ac)
          have q0 := fun i => cell_at_block hD2 i
          refine bodyPost_ret (v := .agg #[.int .i64 0, .slice (some ⟨w.heap.size + 1, 0, none⟩) k k, .slice ao q.length ac]) (by simp [results, Tryd.results7, go_sem, q0]) rfl ⟨0, o, q, _, _, Or.inr (Or.inl ⟨HS.out, HV.out, rfl⟩), rfl, hR2⟩
        | none =>
          obtain ⟨he, o, hT⟩ := hend
          subst he
          obtain ⟨v, hv, hown⟩ := hT.inv.st
          obtain ⟨ao, ac, rfl⟩ := owns_form hown
          have c1 : w3.cell? ⟨wr.heap.size, 1, none⟩ = some (.slice ao q.length ac) := by simp [World.cell?, hv]
          have d0 : w3.cell? ⟨w.heap.size, 0, none⟩ = some (.int .i64 0) := by simp [World.cell?, hT.db]
          have d1 : w3.cell? ⟨w.heap.size, 1, none⟩ = some (.slice none 0 0) := by simp [World.cell?, hT.db]
          have d2 : w3.cell? ⟨w.heap.size, 2, none⟩ = some (.slice none 0 0) := by simp [World.cell?, hT.db]
          have f0 : ∀ i, w3.frozen? ⟨w.heap.size, i, none⟩ = false := fun i => by simp [World.frozen?, hT.db]
          have hR : Hid (SortRes w w3 (.slice none 0 0) (.slice ao q.length ac) [] q) := ⟨hT.inv.bel, World.ownsRow_nil _ _ _ _, owns_mono hown (by have := Hwr.out; omega)⟩
          have HD : Hid _ := hT.db
          clear hT hv hown HF
          go_wp2
          obtain ⟨hR2, hD2⟩ := hR.out.laid HD.out (Nat.le_refl _) (.int .i64 2) (.slice none 0 0) (.slice ao q.length ac)
          have q0 := fun i => cell_at_block hD2 i
          refine bodyPost_ret (v := .agg #[.int .i64 2, .slice none 0 0, .slice ao q.length ac]) (by simp [results, Tryd.results7, go_sem, q0]) rfl ⟨2, [], q, _, _, Or.inr (Or.inr ⟨HS.out, HV.out, rfl, rfl⟩), rfl, hR2⟩

end Go.Proofs.YtgflalfiopnmnaaDoor
