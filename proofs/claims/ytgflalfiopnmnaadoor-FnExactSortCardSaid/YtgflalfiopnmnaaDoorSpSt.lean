import Derived.Test.YtgflalfiopnmnaaDoorSoSort
namespace Go.Proofs.YtgflalfiopnmnaaDoor
open Go.RowKit Rk So

/-- What stands while the model sorts: block S holds the answers, the questions so far, and whether one failed. -/
structure SInv (w0 w : World) (S base : Nat) (hd : Value) (q : List (Nat × Nat)) (b : Bool) : Prop where
  bel : Below w0.heap.size w0 w
  le : w0.heap.size ≤ S
  st : ∃ v, w.heap[S]? = some (.cells #[hd, v, .bool b] 50 (0, 0)) ∧ w.ownsRow base 53 2 v q.length (askCells q)
  lt : S < base
  sz : base ≤ w.heap.size

theorem SInv.drew {w0 w : World} {S base : Nat} {hd : Value} {q : List (Nat × Nat)} {b : Bool} (h : SInv w0 w S base hd q b) : SInv w0 w.drew S base hd q b := ⟨h.bel.drew, h.le, h.st, h.lt, h.sz⟩
theorem SInv.alloc {w0 w : World} {S base : Nat} {hd : Value} {q : List (Nat × Nat)} {b : Bool} (h : SInv w0 w S base hd q b) (o : Obj) : SInv w0 (w.alloc o) S base hd q b := by
  obtain ⟨v, hv, ho⟩ := h.st
  have hl := lt_of_block hv
  exact ⟨h.bel.alloc h.bel.size o, h.le, ⟨v, by rw [Below.heap_alloc _ _ _ hl]; exact hv, ho.alloc o⟩, h.lt, by have := h.sz; simp; omega⟩
theorem SInv.size {w0 w : World} {S base : Nat} {hd : Value} {q : List (Nat × Nat)} {b : Bool} (h : SInv w0 w S base hd q b) : S < w.heap.size := by
  obtain ⟨v, hv, ho⟩ := h.st
  exact lt_of_block hv
theorem SInv.failCell {w0 w : World} {S base : Nat} {hd : Value} {q : List (Nat × Nat)} {b : Bool} (h : SInv w0 w S base hd q b) : w.cell? ⟨S, 2, none⟩ = some (.bool b) := by
  obtain ⟨v, hv, ho⟩ := h.st
  simp [World.cell?, hv]

/-- A row of numbers of the call's own has been written. -/
theorem SInv.grown {w0 w w' : World} {S base : Nat} {hd : Value} {q : List (Nat × Nat)} {b : Bool} (h : SInv w0 w S base hd q b) {v : Value} {bb n : Nat} {xs : List Value} (ho : w.ownsRow bb 3 1 v n xs) (hS : S < bb) (hg : w.grownBy w' v.ownBlock) : SInv w0 w' S base hd q b := by
  obtain ⟨v', hv, hq⟩ := h.st
  have hl := lt_of_block hv
  rcases ho.2 with ⟨rfl, _⟩ | ⟨g, cap, cur, rfl, hgb, hh, _⟩
  · have hg' : w.grownBy w' none := hg
    exact ⟨h.bel.trans (((Fr.made hg').below h.lt (Nat.le_of_lt hl)).mono h.le), h.le, ⟨v', by rw [hg'.block S hl (by simp)]; exact hv, hq.kept hg' (Classical.em _)⟩, h.lt, Nat.le_trans h.sz hg.size⟩
  · have hg' : w.grownBy w' (some g) := hg
    have bel : Below S w w' := ⟨hg.os, hg.tape, hg.output, hg.size, fun k hk => hg'.block k (by omega) (fun e => by cases e; omega)⟩
    refine ⟨h.bel.trans (bel.mono h.le), h.le, ⟨v', by rw [hg'.block S hl (fun e => by cases e; omega)]; exact hv, hq.1, ?_⟩, h.lt, Nat.le_trans h.sz hg.size⟩
    rcases hq.2 with h2 | ⟨g', cap', cur', hv', hg2, hh', r⟩
    · exact Or.inl h2
    · refine Or.inr ⟨g', cap', cur', hv', hg2, ?_, r⟩
      rw [hg'.block g' (lt_of_block hh') (fun e => by cases e; rw [hh] at hh'; cases hh')]
      exact hh'
/-- The frame, behind such a write. -/
theorem Fr.grownNew {S base : Nat} {a w w' : World} (h : Fr S base a w) {v : Value} {bb n : Nat} {xs : List Value} (ho : w.ownsRow bb 3 1 v n xs) (hb : a.heap.size ≤ bb) (hg : w.grownBy w' v.ownBlock) : Fr S base a w' := by
  refine ⟨hg.os.trans h.os, hg.tape.trans h.tape, hg.output.trans h.output, Nat.le_trans h.size hg.size, fun k hk hS hbk => ?_⟩
  rw [hg.block k (Nat.lt_of_lt_of_le hk h.size) (fun e => ?_), h.block k hk hS hbk]
  rcases ho.2 with ⟨rfl, _⟩ | ⟨g, cap, cur, rfl, hgb, hh, _⟩
  · simp [Value.ownBlock] at e
  · simp [Value.ownBlock] at e; omega

/-- One question more. -/
theorem SInv.more {w0 w w1 : World} {S base : Nat} {hd v v' : Value} {q : List (Nat × Nat)} {y x : Nat} {b : Bool} (h : SInv w0 w S base hd q b) (hv : w.heap[S]? = some (.cells #[hd, v, .bool b] 50 (0, 0))) (ho : w.ownsRow base 53 2 v q.length (askCells q))
    (o : Obj) (ho1 : w1.ownsRow base 53 2 v' (q.length + 1) (askCells q ++ [.int .i64 (y : Nat), .int .i64 (x : Nat)])) (hg : (w.alloc o).grownBy w1 v.ownBlock) :
    SInv w0 (w1.setCell ⟨S, 1, none⟩ v') S base hd (q ++ [(y, x)]) b ∧ Fr S base w (w1.setCell ⟨S, 1, none⟩ v') ∧ w1.heap[S]? = some (.cells #[hd, v, .bool b] 50 (0, 0)) := by
  have hl := lt_of_block hv
  have hne : some S ≠ v.ownBlock := by
    intro e
    rcases ho.2 with ⟨rfl, _⟩ | ⟨g, cap, cur, rfl, hge, _⟩
    · simp [Value.ownBlock] at e
    · simp [Value.ownBlock] at e
      have := h.lt
      omega
  have hS1 : w1.heap[S]? = some (.cells #[hd, v, .bool b] 50 (0, 0)) := by
    rw [hg.block S (by simp; omega) hne, Below.heap_alloc _ _ _ hl]; exact hv
  have hfr : Fr S base w w1 := ((Fr.refl S base w).alloc o).grown (ho.alloc o) hg
  refine ⟨⟨?_, h.le, ⟨v', ?_, ?_⟩, h.lt, ?_⟩, hfr.setS 1 v', hS1⟩
  · exact (h.bel.trans ((hfr.below h.lt (by omega)).mono h.le)).setCell h.le v'
  · simp [World.setCell, Array.getElem?_modify, hS1]
  · have e : askCells (q ++ [(y, x)]) = askCells q ++ [.int .i64 (y : Nat), .int .i64 (x : Nat)] := by simp [askCells]
    rw [e, List.length_append]
    refine ownsRow_setCell_below ho1 (by show S < base; exact h.lt) v'
  · have := h.sz
    have := hfr.size
    simp [World.setCell]; omega

/-- A question failed. -/
theorem SInv.fails {w0 w : World} {S base : Nat} {hd : Value} {q : List (Nat × Nat)} {b : Bool} (h : SInv w0 w S base hd q b) : SInv w0 (w.setCell ⟨S, 2, none⟩ (.bool true)) S base hd q true := by
  obtain ⟨v, hv, ho⟩ := h.st
  refine ⟨h.bel.setCell h.le _, h.le, ⟨v, by simp [World.setCell, Array.getElem?_modify, hv], ownsRow_setCell_below ho (by show S < base; exact h.lt) _⟩, h.lt, by simpa [World.setCell] using h.sz⟩

set_option maxHeartbeats 1000000 in
/-- The model's 'ask'. -/
theorem spAsk_any (w0 w : World) (S base : Nat) (ga : Option Addr) (gb go n cp : Nat) (A : Nat → Option Addr) (L C RB RO : Nat → Nat) (M : Nat → Nat → Int) (q : List (Nat × Nat)) (y x : Nat)
    (hga : 0 < n → ga = some ⟨gb, go, none⟩) (HS : Hid (Sq n L M)) (HM : Hid (MatR w0 gb go n A L C RB RO M))
    (hI : SInv w0 w S base (.slice ga n cp) q false) (hy : y < n) (hx : x < n) (hq : q.length ≤ 1000000) :
    Calls Tryd.prog 46 #[.pointer (some ⟨S, 0, none⟩), .int .i64 y, .int .i64 x] w fun e w' => e = .returned (.bool (M y x == 1)) ∧ SInv w0 w' S base (.slice ga n cp) (q ++ [(y, x)]) (M y x == 2) ∧ Fr S base w w' := by
  obtain rfl := hga (by omega)
  obtain ⟨i0, hi, hz0, hz1, hz2⟩ := info_parts Tryd.infoAsk
  obtain ⟨v, hv, ho⟩ := hI.st
  have hc0 : w.cell? ⟨S, 0, none⟩ = some (.slice (some ⟨gb, go, none⟩) n cp) := by simp [World.cell?, hv]
  have hc1 : w.cell? ⟨S, 1, none⟩ = some v := by simp [World.cell?, hv]
  have h200 : n ≤ 200 := HS.out.1
  have HV : Hid (w.heap[S]? = some (.cells #[.slice (some ⟨gb, go, none⟩) n cp, v, .bool false] 50 (0, 0))) := hv
  have HI : Hid (SInv w0 w S base (.slice (some ⟨gb, go, none⟩) n cp) q false) := hI
  have hsz := hI.sz
  clear hv hI
  go_enter Tryd.func46, Tryd.ntmps46
  go_wp2_with (at_builtin; refine wpList_append_lies _ (by rfl) (.tmp 11) (.tmp 15) 26 (by rfl) base 53 i0 (.agg #[.int .i64 0, .int .i64 0]) 2 16 Tryd.underlying26 hi hz0 hz1 hz2 (by rfl) (by omega) v q.length (askCells q) (by rfl) (ho.alloc _) ⟨w.heap.size, 0, none⟩ 1 1 [.int .i64 y, .int .i64 x] (by rfl) (by rfl) (World.news_of_block (heap_alloc_new w _)) ?c2 (by omega) ?c3 ?c4 ?c5 (w.heap.size + 1) (by simp) ?_)
  case c2 => first | exact ⟨rfl, rfl⟩ | (intro u hu; simp at hu; rcases hu with rfl | rfl <;> rfl)
  case c3 => unfold maxLen; omega
  case c4 => omega
  case c5 => first | omega | (simp; omega)
  intro g cap w1 hown1 hgrow hat hlt
  obtain ⟨hI2, hF2, hS1⟩ := HI.out.more HV.out ho _ hown1 hgrow
  have d0 : w1.cell? ⟨S, 0, none⟩ = some (.slice (some ⟨gb, go, none⟩) n cp) := by simp [World.cell?, hS1]
  have d1 : w1.cell? ⟨S, 1, none⟩ = some v := by simp [World.cell?, hS1]
  have d2 : w1.frozen? ⟨S, 1, none⟩ = false := by simp [World.frozen?, hS1]
  have d3 : w1.cell? ⟨S, 2, none⟩ = some (.bool false) := by simp [World.cell?, hS1]
  have d4 : w1.frozen? ⟨S, 2, none⟩ = false := by simp [World.frozen?, hS1]
  have hM2 := HM.out.below hI2.bel
  have t := hM2.topAt HS.out hy
  have u := hM2.valAt HS.out hy hx
  by_cases e2 : M y x = 2
  · have hI3 := hI2.fails
    have hF3 := hF2.setS 2 (.bool true)
    have hM3 := HM.out.below hI3.bel
    have t3 := hM3.topAt HS.out hy
    have u3 := hM3.valAt HS.out hy hx
    have eb1 : (M y x == 1) = false := by rw [e2]; rfl
    have eb2 : (M y x == 2) = true := by rw [e2]; rfl
    rw [e2] at u u3
    have HB1 : Hid _ := eb1
    have HB2 : Hid _ := eb2
    have HI3 : Hid _ := hI3
    have HF3 : Hid _ := hF3
    clear hI2 hF2 hM2 hI3 hF3 hM3 hown1 hgrow hat hlt ho HV HI hc0 hc1 hS1 eb1 eb2 e2
    go_wp2
    go_ret
    exact ⟨by rw [HB1.out]; rfl, by rw [HB2.out]; exact HI3.out, HF3.out⟩
  · have eb2 : (M y x == 2) = false := by simpa using e2
    have HI2 : Hid _ := hI2
    have HF2 : Hid _ := hF2
    clear hI2 hF2 hM2 hown1 hgrow hat hlt ho HV HI hc0 hc1 hS1 e2
    go_wp2
    go_ret
    exact ⟨rfl, by rw [eb2]; exact HI2.out, HF2.out⟩

end Go.Proofs.YtgflalfiopnmnaaDoor
