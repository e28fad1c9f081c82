import Derived.Test.YtgflalfiopnmnaaP3
import Derived.Test.YtgflalfiopnmnaaP1
import Derived.Deep.CutRange
namespace Go.Proofs.Ytgflalfiopnmnaa
open Go.RowKit Vl

/-- The cells of c pairs. -/
def pairCells (K X : Nat → V) (c : Nat) : List Value := (List.range c).flatMap fun j => [.int .i64 (K j).k, .int .i64 (K j).n, .string (K j).s, .int .i64 (K j).a, .int .i64 (X j).k, .int .i64 (X j).n, .string (X j).s, .int .i64 (X j).a]
theorem pairCells_succ (K X : Nat → V) (c : Nat) : pairCells K X (c + 1) = pairCells K X c ++ [.int .i64 (K c).k, .int .i64 (K c).n, .string (K c).s, .int .i64 (K c).a, .int .i64 (X c).k, .int .i64 (X c).n, .string (X c).s, .int .i64 (X c).a] := by
  simp [pairCells, List.range_succ]
theorem pairCells_len (K X : Nat → V) (c : Nat) : (pairCells K X c).length = c * 8 := by
  induction c with
  | zero => rfl
  | succ c ih => rw [pairCells_succ, List.length_append, ih]; simp; omega
theorem pairCells_at (K X : Nat → V) (c j i : Nat) (hj : j < c) (hi : i < 8) : (pairCells K X c)[j * 8 + i]? = [Value.int .i64 (K j).k, .int .i64 (K j).n, .string (K j).s, .int .i64 (K j).a, .int .i64 (X j).k, .int .i64 (X j).n, .string (X j).s, .int .i64 (X j).a][i]? := by
  induction c with
  | zero => omega
  | succ c ih =>
    rw [pairCells_succ]
    by_cases e : j = c
    · subst e
      rw [List.getElem?_append_right (by rw [pairCells_len]; omega), pairCells_len, show j * 8 + i - j * 8 = i by omega]
    · rw [List.getElem?_append_left (by rw [pairCells_len]; omega)]
      exact ih (by omega)
theorem pairCells_congr {K X K' X' : Nat → V} {c : Nat} (h : ∀ j, j < c → K j = K' j ∧ X j = X' j) : pairCells K X c = pairCells K' X' c := by
  induction c with
  | zero => rfl
  | succ c ih => rw [pairCells_succ, pairCells_succ, ih (fun j hj => h j (by omega)), (h c (by omega)).1, (h c (by omega)).2]

/-- Pairs that are owned, as they are read. -/
theorem owns_pairs {w : World} {base L : Nat} {v : Value} {K X : Nat → V} (h : w.ownsRow base 75 8 v L (pairCells K X L)) : v = .slice (slA v) L (slC v) ∧ PairsAt w (slA v) L (slB v) 0 K X := by
  have hform : v = .slice (slA v) L (slC v) := by
    obtain ⟨oa, oc, rfl, _⟩ := owns_form h
    rfl
  refine ⟨hform, ?_⟩
  have top : ∀ j i, j < L → i < 8 → ∃ g cap, v = .slice (some ⟨g, 0, none⟩) L cap ∧ w.cell? ⟨g, j * 8 + i, none⟩ = [Value.int .i64 (K j).k, .int .i64 (K j).n, .string (K j).s, .int .i64 (K j).a, .int .i64 (X j).k, .int .i64 (X j).n, .string (X j).s, .int .i64 (X j).a][i]? := by
    intro j i hj hi
    have e := pairCells_at K X L j i hj hi
    obtain ⟨y, hy⟩ : ∃ y, [Value.int .i64 (K j).k, .int .i64 (K j).n, .string (K j).s, .int .i64 (K j).a, .int .i64 (X j).k, .int .i64 (X j).n, .string (X j).s, .int .i64 (X j).a][i]? = some y := ⟨_, List.getElem?_eq_getElem (by simpa using hi)⟩
    rw [hy] at e ⊢
    exact owns_cell h e
  have cell : ∀ j i, j < L → i < 8 → w.cell? ⟨slB v, j * 8 + i, none⟩ = [Value.int .i64 (K j).k, .int .i64 (K j).n, .string (K j).s, .int .i64 (K j).a, .int .i64 (X j).k, .int .i64 (X j).n, .string (X j).s, .int .i64 (X j).a][i]? := by
    intro j i hj hi
    obtain ⟨g, cap, rfl, hc⟩ := top j i hj hi
    exact hc
  refine ⟨fun h0 => ?_, fun j hj => ?_, fun j hj => ?_⟩
  · obtain ⟨g, cap, rfl, _⟩ := top 0 0 h0 (by omega)
    rfl
  · rw [Nat.zero_add]
    exact ⟨cell j 0 hj (by omega), cell j 1 hj (by omega), cell j 2 hj (by omega), cell j 3 hj (by omega)⟩
  · rw [Nat.zero_add]
    exact ⟨cell j 4 hj (by omega), cell j 5 hj (by omega), cell j 6 hj (by omega), cell j 7 hj (by omega)⟩

/-- Tables that a call itself makes, one behind the other: table j is the slice PV j. -/
structure OTab (w : World) (base : Nat) (tv : Value) (i : Nat) (PV : Nat → Value) (L : Nat → Nat) (K X : Nat → Nat → V) : Prop where
  own : w.ownsRow base 73 1 tv i ((List.range i).map PV)
  rows : ∀ j, j < i → w.ownsRow base 75 8 (PV j) (L j) (pairCells (K j) (X j) (L j))
  dis : ∀ j k, j < k → k < i → ∀ g, (PV j).ownBlock = some g → (PV k).ownBlock ≠ some g

theorem OTab.nil (w : World) (base : Nat) (PV : Nat → Value) (L : Nat → Nat) (K X : Nat → Nat → V) : OTab w base (.slice none 0 0) 0 PV L K X := ⟨World.ownsRow_nil _ _ _ _, fun _ hj => absurd hj (Nat.not_lt_zero _), fun _ _ _ hk => absurd hk (Nat.not_lt_zero _)⟩
theorem OTab.only {w w' : World} {base : Nat} {tv : Value} {i : Nat} {PV : Nat → Value} {L : Nat → Nat} {K X : Nat → Nat → V} {P : Nat → Prop} (h : OTab w base tv i PV L K X) (ho : Only P w w') (hP : ∀ k, base ≤ k → ¬ P k) : OTab w' base tv i PV L K X :=
  ⟨ho.owns h.own (fun g hg _ => hP g hg), fun j hj => ho.owns (h.rows j hj) (fun g hg _ => hP g hg), h.dis⟩
theorem OTab.below {w w' : World} {base : Nat} {tv : Value} {i : Nat} {PV : Nat → Value} {L : Nat → Nat} {K X : Nat → Nat → V} (h : OTab w base tv i PV L K X) (hb : Below w.heap.size w w') : OTab w' base tv i PV L K X := h.only (Only.below (P := fun _ => False) hb) (fun _ _ h => h)

theorem OTab.onlyB {w w' : World} {base : Nat} {tv : Value} {i : Nat} {PV : Nat → Value} {L : Nat → Nat} {K X : Nat → Nat → V} {P : Nat → Prop} (h : OTab w base tv i PV L K X) (ho : Only P w w') (h1 : ∀ g, tv.ownBlock = some g → ¬ P g) (h2 : ∀ j, j < i → ∀ g, (PV j).ownBlock = some g → ¬ P g) : OTab w' base tv i PV L K X :=
  ⟨ho.ownsB h.own h1, fun j hj => ho.ownsB (h.rows j hj) (h2 j hj), h.dis⟩
/-- One table more: its pairs lie in a row of their own, of this call's making since 'fresh'. -/
theorem OTab.more {w w1 : World} {base : Nat} {tv tv' pv : Value} {i : Nat} {PV : Nat → Value} {L : Nat → Nat} {K X : Nat → Nat → V} (h : OTab w base tv i PV L K X) {l : Nat} {k x : Nat → V} (hp : w.ownsRow base 75 8 pv l (pairCells k x l)) (hd : ∀ j, j < i → ∀ g, (PV j).ownBlock = some g → pv.ownBlock ≠ some g) (o : Obj) (hbz : base ≤ w.heap.size)
    (ho : w1.ownsRow base 73 1 tv' (i + 1) (((List.range i).map PV) ++ [pv])) (hg : (w.alloc o).grownBy w1 tv.ownBlock) :
    OTab w1 base tv' (i + 1) (fun j => if j = i then pv else PV j) (fun j => if j = i then l else L j) (fun j => if j = i then k else K j) (fun j => if j = i then x else X j) ∧ Below base w w1 := by
  have keep : ∀ v n xs, w.ownsRow base 75 8 v n xs → w1.ownsRow base 75 8 v n xs := fun v n xs hr => by
    refine ⟨hr.1, ?_⟩
    rcases hr.2 with h2 | ⟨g, cap, cur, hv, hge, hh, r⟩
    · exact Or.inl h2
    · refine Or.inr ⟨g, cap, cur, hv, hge, ?_, r⟩
      rw [hg.block g (by have := lt_of_block hh; simp; omega) (fun e => ?_), Below.heap_alloc _ _ _ (lt_of_block hh)]
      · exact hh
      · obtain ⟨_, cur', h'⟩ := owns_type h.own e.symm
        rw [hh] at h'
        cases h'
  refine ⟨⟨?_, fun j hj => ?_, fun a b hab hb g hga => ?_⟩, ?_⟩
  · have e : ((List.range (i + 1)).map fun j => if j = i then pv else PV j) = ((List.range i).map PV) ++ [pv] := by
      rw [List.range_succ, List.map_append]
      congr 1
      · apply List.map_congr_left
        intro j hj
        have := List.mem_range.1 hj
        simp [show ¬ j = i by omega]
      · simp
    rw [e]; exact ho
  · by_cases e : j = i
    · subst e; simp only [if_true]; exact keep _ _ _ hp
    · simp only [e, if_false]; exact keep _ _ _ (h.rows j (by omega))
  · simp only [show ¬ a = i by omega, if_false] at hga
    by_cases e : b = i
    · subst e; simp only [if_true]; exact hd a (by omega) g hga
    · simp only [e, if_false]; exact h.dis a b hab (by omega) g hga
  · refine ⟨hg.os, hg.tape, hg.output, by have := hg.size; simp at this; omega, fun k hk => ?_⟩
    rw [hg.block k (by simp; omega) (fun e => ?_), Below.heap_alloc _ _ _ (by omega)]
    have := (owns_type h.own e.symm).1
    omega

theorem OTab.congr {w : World} {base : Nat} {tv : Value} {i : Nat} {PV : Nat → Value} {L L' : Nat → Nat} {K X K' X' : Nat → Nat → V} (h : OTab w base tv i PV L K X) (hL : ∀ j, j < i → L j = L' j) (hK : ∀ j, j < i → ∀ c, c < L' j → K j c = K' j c ∧ X j c = X' j c) : OTab w base tv i PV L' K' X' := by
  refine ⟨h.own, fun j hj => ?_, h.dis⟩
  have := h.rows j hj
  rw [hL j hj, pairCells_congr (fun c hc => hK j hj c hc)] at this
  exact this

/-- What was made, as it is read. -/
theorem OTab.tabs {w : World} {base : Nat} {tv : Value} {i : Nat} {PV : Nat → Value} {L : Nat → Nat} {K X : Nat → Nat → V} (h : OTab w base tv i PV L K X) : tv = .slice (slA tv) i (slC tv) ∧ TabsAt w (slA tv) i (slB tv) 0 (fun j => slA (PV j)) L (fun j => slC (PV j)) (fun j => slB (PV j)) (fun _ => 0) K X := by
  refine ⟨by obtain ⟨oa, oc, rfl, _⟩ := owns_form h.own; rfl, fun h0 => ?_, fun r hr => ?_, fun r hr => (owns_pairs (h.rows r hr)).2⟩
  · obtain ⟨g, cap, rfl, _⟩ := owns_cell h.own (k := 0) (y := PV 0) (by simp [h0])
    rfl
  · obtain ⟨g, cap, rfl, hc⟩ := owns_cell h.own (k := r) (y := PV r) (by simp [hr])
    rw [Nat.zero_add]
    rw [← (owns_pairs (h.rows r hr)).1]
    exact hc

end Go.Proofs.Ytgflalfiopnmnaa

namespace Go.Proofs.Ytgflalfiopnmnaa
open Go.RowKit Vl

/-- The canonical graph. -/
def cL (S : List Nat) (L : Nat → Nat) (i : Nat) : Nat := L (S.getD i 0)
def cK (S : List Nat) (K : Nat → Nat → V) (i : Nat) : Nat → V := K (S.getD i 0)
def cX (S : List Nat) (X : Nat → Nat → V) (i c : Nat) : V := renum S (X (S.getD i 0) c)

/-- A block that holds a graph. -/
def OutB (w : World) (B : Nat) (v : V) (tv : Value) : Prop := w.heap[B]? = some (.cells #[.int .i64 v.k, .int .i64 v.n, .string v.s, .int .i64 v.a, tv] 27 (0, 0))

theorem SpW.start {w0 w : World} {WB WH base n cp : Nat} {u : V} {ta : Option Addr} (h : w.heap[WB]? = some (.cells #[.int .i64 u.k, .int .i64 u.n, .string u.s, .int .i64 u.a, .slice ta n cp, .slice (some ⟨WH, 0, none⟩) n n, .slice none 0 0] 134 (0, 0))) (hr : w.rowIs WH 3 n (fun _ => .int .i64 (-1))) (hb : Below w0.heap.size w0 w) : SpW w0 w WB WH base u ta n cp (.slice none 0 0) [] [] :=
  ⟨h, hr.congr (fun i _ => by simp [whereIs]), World.ownsRow_nil _ _ _ _, hb⟩

/-- The graph that came in, and the empty answer. -/
structure CanW (w wr : World) (u : V) (ta : Option Addr) (n cp : Nat) : Prop where
  graph : OutB wr w.heap.size u (.slice ta n cp)
  res : OutB wr (w.heap.size + 1) zeroV (.slice none 0 0)
  bel : Below w.heap.size w wr
theorem CanW.only {w wr wr' : World} {u : V} {ta : Option Addr} {n cp : Nat} {P : Nat → Prop} (h : CanW w wr u ta n cp) (ho : Only P wr wr') (hP : ∀ k, P k → w.heap.size + 2 ≤ k) : CanW w wr' u ta n cp :=
  ⟨(ho.block _ (blk_lt h.graph) (fun x => by have := hP _ x; omega)).trans h.graph, (ho.block _ (blk_lt h.res) (fun x => by have := hP _ x; omega)).trans h.res, h.bel.trans (ho.toBelow (fun k x => by have := hP k x; omega) h.bel.size)⟩
theorem CanW.below {w wr wr' : World} {u : V} {ta : Option Addr} {n cp : Nat} (h : CanW w wr u ta n cp) (hb : Below wr.heap.size wr wr') : CanW w wr' u ta n cp := h.only (Only.below (P := fun _ => False) hb) (fun _ h => h.elim)

theorem set4_only {w : World} {B i j k l : Nat} {a' b' c' d' : Value} : Only (fun k => k = B) w ((((w.setCell ⟨B, i, none⟩ a').setCell ⟨B, j, none⟩ b').setCell ⟨B, k, none⟩ c').setCell ⟨B, l, none⟩ d') :=
  ((((Only.refl (fun k => k = B) w).set (p := ⟨B, i, none⟩) rfl a').set (p := ⟨B, j, none⟩) rfl b').set (p := ⟨B, k, none⟩) rfl c').set (p := ⟨B, l, none⟩) rfl d'

end Go.Proofs.Ytgflalfiopnmnaa

namespace Go.Proofs.Ytgflalfiopnmnaa
open Go.RowKit Vl

/-- What 'Canon' answers: the canonical graph, or the empty one. -/
def CanonIs (w w' : World) (e : Ending) (n : Nat) (u : V) (L : Nat → Nat) (K X : Nat → Nat → V) : Prop :=
  (OkG n u L K X ∧ ∃ (tv : Value) (PV : Nat → Value) (base : Nat), w.heap.size ≤ base ∧ e = .returned (.agg #[.int .i64 (renum (order n u L X) u).k, .int .i64 (renum (order n u L X) u).n, .string (renum (order n u L X) u).s, .int .i64 (renum (order n u L X) u).a, tv]) ∧ OTab w' base tv (order n u L X).length PV (cL (order n u L X) L) (cK (order n u L X) K) (cX (order n u L X) X)) ∨
  (¬ OkG n u L K X ∧ e = .returned (.agg #[.int .i64 0, .int .i64 0, .string ⟨#[]⟩, .int .i64 0, .slice none 0 0]))

end Go.Proofs.Ytgflalfiopnmnaa

namespace Go.Proofs.Ytgflalfiopnmnaa
open Go.RowKit Vl

end Go.Proofs.Ytgflalfiopnmnaa



namespace Go.Proofs.Ytgflalfiopnmnaa
open Go.RowKit Vl

set_option maxHeartbeats 2000000 in
set_option maxRecDepth 100000 in
/-- '(*table).pairs'. -/
theorem pairs_any (n : Nat) (T M : Nat → Nat) (at_ : Nat → Int) (L : Nat → Nat) (K X : Nat → Nat → V) (r : Nat) (w : World) (hr : r < n) (hL : L r ≤ 100) (HG : Hid (Good n L X)) (HT : Hid (Tbs w n T M at_ L K X)) :
    Calls Try.prog 75 #[.pointer (some ⟨T r, 0, none⟩)] w fun e w' => (∃ pv, e = .returned pv ∧ w'.ownsRow w.heap.size 75 8 pv (L r) (pairCells (K r) (fun c => atV at_ (X r c)) (L r))) ∧ Below w.heap.size w w' := by
  obtain ⟨ord, hTb, hOr⟩ := HT.out.tab r hr
  obtain ⟨l, hM, hfind⟩ := HT.out.map r hr
  obtain ⟨hform, hVals⟩ := owns_keys hOr
  have HTb : Hid (TabB w (T r) (M r) (at_ r) ord) := hTb
  have HM : Hid (MapIs w (M r) l) := hM
  have HF : Hid (∀ c, c < L r → findV (K r c) l = some (ifv T (X r c))) := hfind
  obtain ⟨ka, hka⟩ : ∃ ka, slA ord = ka := ⟨_, rfl⟩
  obtain ⟨kb, hkb⟩ : ∃ kb, slB ord = kb := ⟨_, rfl⟩
  obtain ⟨kc, hkc⟩ : ∃ kc, slC ord = kc := ⟨_, rfl⟩
  rw [hka, hkc] at hform
  rw [hka, hkb] at hVals
  have HV : Hid (ValsAt w ka (L r) kb 0 (K r)) := hVals
  rw [hform] at HTb
  clear hTb hM hfind hVals hOr hform hka hkb hkc
  obtain ⟨ip, hpi, hp0, hp1, hp2⟩ := info_parts Try.info75
  obtain ⟨t0, t1, t2, _⟩ := HTb.out.cells
  go_enter Try.func75, Try.ntmps75
  go_wp2
  clear t0 t1 t2
  go_loopw [3, 11] (fun pv ii wr => ∃ c : Nat, c ≤ L r ∧ ii = .int .i64 c ∧ Hid (wr.ownsRow w.heap.size 75 8 pv c (pairCells (K r) (fun c => atV at_ (X r c)) c)) ∧ Hid (Below w.heap.size w wr)) (fun _ ii _ => L r - (intOf ii).toNat)
  case atStart => exact ⟨0, Nat.zero_le _, rfl, World.ownsRow_nil _ _ _ _, Below.refl _ _⟩
  case round =>
    obtain ⟨c, hc, rfl, HO, HB⟩ := hrel
    obtain ⟨pa, pc, rfl, hpk⟩ := owns_form HO.out
    have HPK : Hid (∀ k, (Value.slice pa c pc).ownBlock = some k → w.heap.size ≤ k ∧ k < wr.heap.size) := hpk
    clear hpk
    by_cases hlt : c < L r
    · obtain rfl := HV.out.top (by omega)
      obtain ⟨k0, k1, k2, k3⟩ := (HV.out.below HB.out).cells hlt
      simp only [Nat.zero_add] at k0 k1 k2 k3
      obtain ⟨kk, HKK⟩ : ∃ kk, Hid (K r c = kk) := ⟨_, rfl⟩
      rw [HKK.out] at k0 k1 k2 k3
      go_wp2
      obtain ⟨wk, hwk⟩ : ∃ wk, wk = wr.alloc (.cells #[.int .i64 kk.k, .int .i64 kk.n, .string kk.s, .int .i64 kk.a] 24) := ⟨_, rfl⟩
      have HBk : Hid (Below wr.heap.size wr wk) := by rw [hwk]; exact (Below.refl _ _).alloc (Nat.le_refl _) _
      have HKb : Hid (ValB wk wr.heap.size kk) := by rw [hwk]; exact heap_alloc_new _ _
      rw [← hwk]
      have hszk : wk.heap.size = wr.heap.size + 1 := by rw [hwk]; simp
      obtain ⟨qb, hqb⟩ : ∃ qb, wr.heap.size = qb := ⟨_, rfl⟩
      have hqw : w.heap.size ≤ qb := by rw [← hqb]; exact HB.out.size
      rw [hqb] at HKb ⊢
      clear hwk k0 k1 k2 k3
      have HBw : Hid (Below w.heap.size w wk) := HB.out.trans (HBk.out.mono HB.out.size)
      have HOk : Hid (wk.ownsRow w.heap.size 75 8 (.slice pa c pc) c (pairCells (K r) (fun c => atV at_ (X r c)) c)) := (Only.below (P := fun _ => False) HBk.out).owns HO.out (fun _ _ _ h => h)
      clear HBk HO HB
      have hiv := HG.out r hr c hlt
      obtain ⟨xt, xy, F, hty, hmeth, hcf, hcall⟩ := as_at hiv T at_
      obtain ⟨y, HY⟩ : ∃ y, Hid (atV at_ (X r c) = y) := ⟨_, rfl⟩
      rw [HY.out] at hcall
      have hfc := HF.out c hlt
      rw [hty, HKK.out] at hfc
      have hS : ∀ w' : World, Below w.heap.size w w' → w'.cell? ⟨T r, 1, none⟩ = some (.map (some (M r))) ∧ (Instr.lookup 64 (.map (some (M r))) (.agg #[.int .i64 kk.k, .int .i64 kk.n, .string kk.s, .int .i64 kk.a]) false).run Try.prog w' = .ok (.iface xt xy) w' ∧ (∀ j, j < n → w'.cell? ⟨T j, 0, none⟩ = some (.int .i64 (at_ j))) := fun w' hb => by
        refine ⟨(hb.cell (p := ⟨T r, 1, none⟩) (HT.out.lt hr)).trans HTb.out.cells.2.1, ?_, fun j hj => (hb.cell (p := ⟨T j, 0, none⟩) (HT.out.lt hj)).trans (HT.out.at0 j hj)⟩
        have := ((HM.out.same (hb.block _ HM.out.lt)).lookup kk).2
        rw [hfc] at this
        exact this
      have HS : Hid _ := hS
      clear hS hfc hty
      have hnb : qb < wk.heap.size := by omega
      refine wp_region_held_drew (S := fun w' => Below w.heap.size w w' ∧ ValB w' qb kk) (by kernel_rfl) ⟨HBw.out.drew, HKb.out⟩ (fun hHeld => ?_)
      refine wpAnyH_take (i := 0) (v := .slice pa c pc) rfl (by kernel_rfl) (by kernel_rfl) (by kernel_rfl) (fun _ _ _ h => h) (Or.inl ⟨by rfl, fun w hSw => ?_⟩) hHeld ?_
      · first | rfl | go_simp
      simp only [Act.put, List.setIfInBounds_toArray, List.set_cons_zero, List.set_cons_succ, List.getElem_toArray, List.getElem_cons_zero]
      refine wpAnyH_take (i := 1) (v := .agg #[.int .i64 kk.k, .int .i64 kk.n, .string kk.s, .int .i64 kk.a]) rfl (by kernel_rfl) (by kernel_rfl) (by kernel_rfl) (fun _ _ _ h => h) (Or.inl ⟨by rfl, fun w hSw => ?_⟩) hHeld ?_
      · obtain ⟨s0, s1, s2, s3, _⟩ := cells4 hSw.2
        first | rfl | go_simp
      simp only [Act.put, List.setIfInBounds_toArray, List.set_cons_zero, List.set_cons_succ, List.getElem_toArray, List.getElem_cons_zero, List.getElem_cons_succ]
      refine wpAnyH_take (i := 2) (v := .pointer (some ⟨T r, 0, none⟩)) rfl (by kernel_rfl) (by kernel_rfl) (by kernel_rfl) (fun _ _ _ h => h) (Or.inl ⟨by rfl, fun w hSw => ?_⟩) hHeld ?_
      · first | rfl | go_simp
      simp only [Act.put, List.setIfInBounds_toArray, List.set_cons_zero, List.set_cons_succ, List.getElem_toArray, List.getElem_cons_zero, List.getElem_cons_succ]
      refine wpAnyH_take (i := 3) (v := .pointer (some ⟨T r, 0, none⟩)) rfl (by kernel_rfl) (by kernel_rfl) (by kernel_rfl) (fun _ _ _ h => h) (Or.inl ⟨by rfl, fun w hSw => ?_⟩) hHeld ?_
      · first | rfl | go_simp
      simp only [Act.put, List.setIfInBounds_toArray, List.set_cons_zero, List.set_cons_succ, List.getElem_toArray, List.getElem_cons_zero, List.getElem_cons_succ]
      refine wpAnyH_take (i := 4) (v := .pointer (some ⟨T r, 1, none⟩)) rfl (by kernel_rfl) (by kernel_rfl) (by kernel_rfl) (fun _ _ _ h => h) (Or.inl ⟨by rfl, fun w hSw => ?_⟩) hHeld ?_
      · first | rfl | go_simp
      simp only [Act.put, List.setIfInBounds_toArray, List.set_cons_zero, List.set_cons_succ, List.getElem_toArray, List.getElem_cons_zero, List.getElem_cons_succ]
      refine wpAnyH_take (i := 5) (v := .map (some (M r))) rfl (by kernel_rfl) (by kernel_rfl) (by kernel_rfl) (fun _ _ _ h => h) (Or.inl ⟨by rfl, fun w hSw => ?_⟩) hHeld ?_
      · have s1 := (HS.out w hSw.1).1
        first | rfl | go_simp
      simp only [Act.put, List.setIfInBounds_toArray, List.set_cons_zero, List.set_cons_succ, List.getElem_toArray, List.getElem_cons_zero, List.getElem_cons_succ]
      refine wpAnyH_take (i := 6) (v := .agg #[.int .i64 kk.k, .int .i64 kk.n, .string kk.s, .int .i64 kk.a]) rfl (by kernel_rfl) (by kernel_rfl) (by kernel_rfl) (fun _ _ _ h => h) (Or.inl ⟨by rfl, fun w hSw => ?_⟩) hHeld ?_
      · obtain ⟨s0, s1, s2, s3, _⟩ := cells4 hSw.2
        first | rfl | go_simp
      simp only [Act.put, List.setIfInBounds_toArray, List.set_cons_zero, List.set_cons_succ, List.getElem_toArray, List.getElem_cons_zero, List.getElem_cons_succ]
      refine wpAnyH_take (i := 7) (v := .iface xt xy) rfl (by kernel_rfl) (by kernel_rfl) (by kernel_rfl) (fun _ _ _ h => h) (Or.inl ⟨by rfl, fun w hSw => ?_⟩) hHeld ?_
      · have s1 := (HS.out w hSw.1).2.1
        first | rfl | go_simp
      simp only [Act.put, List.setIfInBounds_toArray, List.set_cons_zero, List.set_cons_succ, List.getElem_toArray, List.getElem_cons_zero, List.getElem_cons_succ]
      refine wpAnyH_ready (rs := [8]) (by kernel_rfl) (by simp) ?_
      refine AllReadyH.cons rfl (fun K' hK' => ?_) AllReadyH.nil
      have hcl := hcall wk.drew (HS.out _ HBw.out.drew).2.2
      clear hcall
      go_simp
      refine hcl.mono ?_
      clear hcl
      rintro e w5 ⟨rfl, hb5⟩
      have HB5 : Hid (Below w.heap.size w w5) := HBw.out.drew.trans (hb5.mono HBw.out.size)
      have HK5 : Hid (ValB w5 qb kk) := (show ValB wk.drew qb kk from HKb.out).below hb5
      have HO5 : Hid (w5.ownsRow w.heap.size 75 8 (.slice pa c pc) c (pairCells (K r) (fun c => atV at_ (X r c)) c)) := (Only.below (P := fun _ => False) hb5).owns (a := wk.drew) HOk.out (fun _ _ _ h => h)
      refine hK'.out _ _ ⟨HB5.out, HK5.out⟩ (fun hHeld => ?_)
      clear hK' hb5
      refine wpAnyH_take (i := 9) (v := .agg #[.int .i64 kk.k, .int .i64 kk.n, .string kk.s, .int .i64 kk.a, .int .i64 y.k, .int .i64 y.n, .string y.s, .int .i64 y.a]) rfl (by kernel_rfl) (by kernel_rfl) (by kernel_rfl) (fun _ _ _ h => h) (Or.inl ⟨by rfl, fun w hSw => ?_⟩) hHeld ?_
      · first | rfl | go_simp
      simp only [Act.put, List.setIfInBounds_toArray, List.set_cons_zero, List.set_cons_succ, List.getElem_toArray, List.getElem_cons_zero, List.getElem_cons_succ]
      refine wpAnyH_ready (rs := [10]) (by kernel_rfl) (by simp) ?_
      refine AllReadyH.cons rfl (fun K' hK' => ?_) AllReadyH.nil
      go_simp
      have hb6 : Below w5.heap.size w5 (w5.alloc (.cells #[.int .i64 kk.k, .int .i64 kk.n, .string kk.s, .int .i64 kk.a, .int .i64 y.k, .int .i64 y.n, .string y.s, .int .i64 y.a] 75)) := (Below.refl _ _).alloc (Nat.le_refl _) _
      refine hK'.out _ _ ⟨HB5.out.trans (hb6.mono HB5.out.size), HK5.out.below hb6⟩ (fun hHeld => ?_)
      clear hK'
      have l5 : qb < w5.heap.size := blk_lt HK5.out
      have hs5 := HB5.out.size
      refine wpAnyH_ready (rs := [11]) (by kernel_rfl) (by simp) ?_
      refine AllReadyH.cons rfl (fun K' hK' => ?_) AllReadyH.nil
      refine step_append_lies _ (by rfl) (.tmp 15) (.tmp 25) 71 (by rfl) w.heap.size 75 ip (.agg #[.int .i64 0, .int .i64 0, .string ⟨#[]⟩, .int .i64 0, .int .i64 0, .int .i64 0, .string ⟨#[]⟩, .int .i64 0]) 8 80 Try.underlying71 hpi hp0 hp1 hp2 (by rfl) (by omega) (.slice pa c pc) c (pairCells (K r) (fun c => atV at_ (X r c)) c) (by rfl) (HO5.out.alloc _) ⟨w5.heap.size, 0, none⟩ 1 1 [.int .i64 kk.k, .int .i64 kk.n, .string kk.s, .int .i64 kk.a, .int .i64 y.k, .int .i64 y.n, .string y.s, .int .i64 y.a] (by rfl) (by rfl) (World.news_of_block (heap_alloc_new w5 _)) (by intro u hu; simp at hu; rcases hu with rfl | rfl | rfl | rfl | rfl | rfl | rfl | rfl <;> rfl) (by omega) (by unfold maxLen; omega) (by omega) (by simp; omega) (w5.heap.size + 1) (by simp) ?_
      intro g cap w6 hown6 hgrow6 hat6 hlt6
      have hbel6 : Below w.heap.size (w5.alloc (.cells #[.int .i64 kk.k, .int .i64 kk.n, .string kk.s, .int .i64 kk.a, .int .i64 y.k, .int .i64 y.n, .string y.s, .int .i64 y.a] 75)) w6 := below_grown (HO5.out.alloc _) hgrow6 (by simp; omega)
      have HB6 : Hid (Below w.heap.size w w6) := (HB5.out.trans (hb6.mono HB5.out.size)).trans hbel6
      have HK6 : Hid (ValB w6 qb kk) := (hgrow6.block qb (by simp; omega) (fun e => by have := (HPK.out _ e.symm).2; omega)).trans (HK5.out.below hb6)
      have HO6 : Hid (w6.ownsRow w.heap.size 75 8 (.slice (some ⟨g, 0, none⟩) (c + 1) cap) (c + 1) (pairCells (K r) (fun c => atV at_ (X r c)) (c + 1))) := by
        show World.ownsRow _ _ _ _ _ _ _
        rw [pairCells_succ]
        simp only [HY.out, HKK.out]
        exact hown6
      refine hK'.out _ _ ⟨HB6.out, HK6.out⟩ (fun hHeld => ?_)
      clear hK' hown6 hgrow6 hat6 hlt6 hb6 hbel6 HB5 HK5 HO5
      simp only [Act.put, List.setIfInBounds_toArray, List.set_cons_zero, List.set_cons_succ, List.getElem_toArray, List.getElem_cons_zero, List.getElem_cons_succ]
      refine wpAnyH_ready (rs := [12]) (by kernel_rfl) (by simp) ?_
      refine AllReadyH.cons rfl (fun K' hK' => ?_) AllReadyH.nil
      go_simp
      refine hK'.out _ _ ⟨HB6.out, HK6.out⟩ (fun hHeld => ?_)
      clear hK' hHeld
      refine wpAnyH_done (by kernel_rfl) ?_ _
      go_wp2
      go_roundw
      case rel => exact ⟨c + 1, by omega, by go_num, HO6, HB6⟩
      case measure => simp [intOf]; omega
    · obtain rfl : c = L r := by omega
      go_wp2
      go_ret
      exact ⟨⟨_, rfl, HO.out⟩, HB.out⟩

end Go.Proofs.Ytgflalfiopnmnaa

namespace Go.Proofs.Ytgflalfiopnmnaa
open Go.RowKit Vl

abbrev ptrs (T : Nat → Nat) (S : List Nat) : List Value := S.map fun j => ptr (T j)

/-- The gatherer of 'canonical': S seen, U in the row. -/
structure MtW (w0 w : World) (WB WM base : Nat) (T : Nat → Nat) (mv : Value) (S U : List Nat) : Prop where
  blk : w.heap[WB]? = some (.cells #[mv, .map (some WM)] 128 (0, 0))
  map : MapG ptr w WM (S.map fun j => (T j, .agg #[]))
  own : w.ownsRow base 63 1 mv U.length (ptrs T U)
  bel : Below w0.heap.size w0 w

theorem MtW.below {w0 w w' : World} {WB WM base : Nat} {T : Nat → Nat} {mv : Value} {S U : List Nat} (h : MtW w0 w WB WM base T mv S U) (hb : Below w.heap.size w w') : MtW w0 w' WB WM base T mv S U :=
  ⟨blkB h.blk hb, h.map.same (hb.block _ h.map.lt), (Only.below (P := fun _ => False) hb).owns h.own (fun _ _ _ h => h), h.bel.trans (hb.mono h.bel.size)⟩

/-- A table is put behind the row. -/
theorem MtW.put {w0 w w3 : World} {WB WM base g cap : Nat} {T : Nat → Nat} {mv : Value} {S U : List Nat} {r : Nat} {o : Obj} (h : MtW w0 w WB WM base T mv S U) (hB : SpB w0 WB WM base) (hgrow : (w.alloc o).grownBy w3 mv.ownBlock)
    (hown : w3.ownsRow base 63 1 (.slice (some ⟨g, 0, none⟩) (U.length + 1) cap) (U.length + 1) (ptrs T U ++ [ptr (T r)])) (hat : w.heap.size ≤ g ∨ mv.ownBlock = some g) :
    (w3.cell? ⟨WB, 0, none⟩ = some mv ∧ ∀ j, w3.frozen? ⟨WB, j, none⟩ = false) ∧ MtW w0 (w3.setCell ⟨WB, 0, none⟩ (.slice (some ⟨g, 0, none⟩) (U.length + 1) cap)) WB WM base T (.slice (some ⟨g, 0, none⟩) (U.length + 1) cap) S (U ++ [r]) ∧
      FrV WB WM mv (.slice (some ⟨g, 0, none⟩) (U.length + 1) cap) w (w3.setCell ⟨WB, 0, none⟩ (.slice (some ⟨g, 0, none⟩) (U.length + 1) cap)) := by
  obtain ⟨_, _, _, hk⟩ := owns_form h.own
  have hwb : WB < w.heap.size := blk_lt h.blk
  have hwh : WM < w.heap.size := h.map.lt
  have hbl : ∀ k, k < w.heap.size → mv.ownBlock ≠ some k → w3.heap[k]? = w.heap[k]? := fun k hk hne =>
    (hgrow.block k (by simp; omega) (fun e => hne e.symm)).trans (Below.heap_alloc w o k hk)
  have n1 : mv.ownBlock ≠ some WB := fun e => by have := (hk _ e).1; have := hB.wbb; omega
  have n2 : mv.ownBlock ≠ some WM := fun e => by have := (hk _ e).1; have := hB.whb; omega
  have hblk := (hbl WB hwb n1).trans h.blk
  have hc := two_at hblk
  have hgb : base ≤ g := by
    obtain ⟨_, _, e, hk'⟩ := owns_form hown
    exact (hk' g (by simp [Value.ownBlock])).1
  have hsz : w.heap.size ≤ w3.heap.size := by have := hgrow.size; simp at this; omega
  have ho : Only (fun k => k = WB ∨ k = WM ∨ mv.ownBlock = some k) w w3 := ⟨hgrow.os, hgrow.tape, hgrow.output, hsz, fun k hk hp => hbl k hk (fun e => hp (Or.inr (Or.inr e)))⟩
  refine ⟨⟨hc.1, hc.2.2⟩, ⟨?_, ?_, ?_, ?_⟩, ⟨ho.set (Or.inl rfl) _, fun k hk' e => ?_⟩⟩
  · simp [World.setCell, Array.getElem?_modify, hblk]
  · exact h.map.same ((Below.heap_setCell _ _ _ _ (fun e => hB.ne e.symm)).trans (hbl WM hwh n2))
  · rw [show ptrs T (U ++ [r]) = ptrs T U ++ [ptr (T r)] by simp [ptrs], show (U ++ [r]).length = U.length + 1 by simp]
    exact ownsRow_setCell_other (a := ⟨WB, 0, none⟩) hown (by have := hB.wbb; simp only [Value.ownBlock, ne_eq, Option.some.injEq]; omega) _
  · refine (h.bel.trans (ho.toBelow (base := w0.heap.size) (fun k hk' => ?_) h.bel.size)).setCell hB.wb _
    rcases hk' with rfl | rfl | e
    · exact hB.wb
    · exact hB.wh
    · have := (hk _ e).1; have := hB.wb; have := hB.wbb; omega
  · simp only [Value.ownBlock, Option.some.injEq] at e
    subst e
    rcases hat with h' | h'
    · omega
    · exact h'

end Go.Proofs.Ytgflalfiopnmnaa

namespace Go.Proofs.Ytgflalfiopnmnaa
open Go.RowKit Vl

end Go.Proofs.Ytgflalfiopnmnaa

namespace Go.Proofs.Ytgflalfiopnmnaa
open Go.RowKit Vl

theorem owns_setK {w : World} {base t s n : Nat} {v : Value} {xs : List Value} (h : w.ownsRow base t s v n xs) {p : Addr} (hp : p.block < base) (x : Value) : (w.setCell p x).ownsRow base t s v n xs :=
  ownsRow_setCell_other h (fun e => by
    obtain ⟨_, _, _, hk⟩ := owns_form h
    have := (hk _ e).1
    omega) _

/-- A table that is being drawn: its block, its pairs, the reader. -/
structure DrT (w0 w : World) (CB xb : Nat) (ca : Option Addr) (cl cc cb co t : Nat) (pv : Value) (l : Nat) (k x : Nat → V) : Prop where
  out : w.heap[xb]? = some (.cells #[pv] 73 (0, 0))
  row : w.ownsRow w0.heap.size 75 8 pv l (pairCells k x l)
  rd : Rd w CB ca cl cc cb co t
  only : Only (fun j => j = xb ∨ j = CB) w0 w

/-- Where things lie: the reader and its bytes ahead of the table. -/
structure DrL (w0 : World) (CB xb cl cb : Nat) : Prop where
  cur : CB < xb
  byt : 0 < cl → cb < xb
  tab : xb < w0.heap.size

/-- Pairs that may be: keys and values, no key twice. -/
structure DrP (n l : Nat) (k x : Nat → V) : Prop where
  key : ∀ c, c < l → keyP (k c)
  val : ∀ c, c < l → valP n (x c)
  once : ∀ c, c < l → ∀ j, j < c → eqV (k j) (k c) = false
theorem DrP.nil (n : Nat) (k x : Nat → V) : DrP n 0 k x := ⟨fun _ h => absurd h (Nat.not_lt_zero _), fun _ h => absurd h (Nat.not_lt_zero _), fun _ h => absurd h (Nat.not_lt_zero _)⟩
theorem DrP.more {n l : Nat} {k x : Nat → V} (h : DrP n l k x) {kk xx : V} (hk : keyP kk) (hx : valP n xx) (hn : ∀ j, j < l → eqV (k j) kk = false) : DrP n (l + 1) (fun c => if c = l then kk else k c) (fun c => if c = l then xx else x c) := by
  refine ⟨fun c hc => ?_, fun c hc => ?_, fun c hc j hj => ?_⟩
  · by_cases e : c = l
    · simp only [e, if_true]; exact hk
    · simp only [e, if_false]; exact h.key c (by omega)
  · by_cases e : c = l
    · simp only [e, if_true]; exact hx
    · simp only [e, if_false]; exact h.val c (by omega)
  · have ej : ¬ j = l := by omega
    by_cases e : c = l
    · simp only [e, ej, if_true, if_false]; exact hn j (by omega)
    · simp only [e, ej, if_false]; exact h.once c (by omega) j hj

section
variable {w0 w w' w6 : World} {CB xb : Nat} {ca : Option Addr} {cl cc cb co t l : Nat} {pv : Value} {k x : Nat → V}
theorem DrT.below (h : DrT w0 w CB xb ca cl cc cb co t pv l k x) (hb : Below w.heap.size w w') : DrT w0 w' CB xb ca cl cc cb co t pv l k x :=
  ⟨blkB h.out hb, (Only.below (P := fun _ => False) hb).owns h.row (fun _ _ _ h => h), h.rd.below hb, h.only.trans (Only.below hb)⟩
theorem DrT.mono {t' : Nat} (h : DrT w0 w CB xb ca cl cc cb co t pv l k x) (ht : t ≤ t') : DrT w0 w CB xb ca cl cc cb co t' pv l k x := ⟨h.out, h.row, h.rd.mono ht, h.only⟩
theorem DrT.next {s : Nat} (h : DrT w0 w CB xb ca cl cc cb co t pv l k x) (hl : DrL w0 CB xb cl cb) (ho : Only (fun j => j = CB) w w') (hr : Rd w' CB ca cl cc cb co s) : DrT w0 w' CB xb ca cl cc cb co s pv l k x :=
  ⟨(ho.block xb (blk_lt h.out) (by have := hl.cur; omega)).trans h.out, ho.owns h.row (fun g hg _ e => by have := hl.cur; have := hl.tab; omega), hr, h.only.trans (ho.mono (fun _ _ e => Or.inr e))⟩
/-- A store into a block that is newer than all of this. -/
theorem DrT.far (h : DrT w0 w CB xb ca cl cc cb co t pv l k x) (hl : DrL w0 CB xb cl cb) {p : Addr} (hp : w0.heap.size ≤ p.block) (hne : pv.ownBlock ≠ some p.block) (v : Value) : DrT w0 (w.setCell p v) CB xb ca cl cc cb co t pv l k x := by
  have hx := hl.tab
  refine ⟨?_, ownsRow_setCell_other (a := p) h.row hne v, h.rd.keep ((Below.refl w0.heap.size w).setCell hp v) (by have := hl.cur; omega) (fun h => by have := hl.byt h; omega), only_set h.only hp v⟩
  rw [Below.heap_setCell _ _ _ _ (by omega)]
  exact h.out
theorem DrT.more {g cap : Nat} {o1 : Obj} (h : DrT w0 w CB xb ca cl cc cb co t pv l k x) (hl : DrL w0 CB xb cl cb) {kk xx : V} (hgrow : (w.alloc o1).grownBy w6 pv.ownBlock)
    (hown : w6.ownsRow w0.heap.size 75 8 (.slice (some ⟨g, 0, none⟩) (l + 1) cap) (l + 1) (pairCells k x l ++ [.int .i64 kk.k, .int .i64 kk.n, .string kk.s, .int .i64 kk.a, .int .i64 xx.k, .int .i64 xx.n, .string xx.s, .int .i64 xx.a])) :
    (w6.cell? ⟨xb, 0, none⟩ = some pv ∧ w6.frozen? ⟨xb, 0, none⟩ = false) ∧ DrT w0 (w6.setCell ⟨xb, 0, none⟩ (.slice (some ⟨g, 0, none⟩) (l + 1) cap)) CB xb ca cl cc cb co t (.slice (some ⟨g, 0, none⟩) (l + 1) cap) (l + 1) (fun c => if c = l then kk else k c) (fun c => if c = l then xx else x c) := by
  obtain ⟨_, _, _, hk⟩ := owns_form h.row
  have hs := h.only.size
  have hx := hl.tab
  have hbl : ∀ k, k < w.heap.size → pv.ownBlock ≠ some k → w6.heap[k]? = w.heap[k]? := fun k hk hne =>
    (hgrow.block k (by simp; omega) (fun e => hne e.symm)).trans (Below.heap_alloc w o1 k hk)
  have n1 : ∀ k, k < w0.heap.size → pv.ownBlock ≠ some k := fun k hk' e => by have := (hk _ e).1; omega
  have h6 : w6.heap[xb]? = some (.cells #[pv] 73 (0, 0)) := (hbl xb (by omega) (n1 xb hx)).trans h.out
  have hsz : w.heap.size ≤ w6.heap.size := by have := hgrow.size; simp at this; omega
  have ho : Only (fun j => j = xb ∨ j = CB) w0 w6 := ⟨hgrow.os.trans h.only.os, hgrow.tape.trans h.only.tape, hgrow.output.trans h.only.output, by omega, fun k hk' hp => (hbl k (by omega) (n1 k hk')).trans (h.only.block k hk' hp)⟩
  have hb0 : Below xb w w6 := ⟨hgrow.os, hgrow.tape, hgrow.output, hsz, fun k hk' => hbl k (by omega) (n1 k (by omega))⟩
  have hb6 : Below xb w (w6.setCell ⟨xb, 0, none⟩ (.slice (some ⟨g, 0, none⟩) (l + 1) cap)) := hb0.setCell (p := ⟨xb, 0, none⟩) (Nat.le_refl _) _
  obtain ⟨c0, cz⟩ := one_at h6
  refine ⟨⟨c0, cz 0⟩, one_put h6 _, ?_, h.rd.keep hb6 hl.cur hl.byt, ho.set (p := ⟨xb, 0, none⟩) (Or.inl rfl) _⟩
  rw [pairCells_succ]
  simp only [if_true]
  rw [pairCells_congr (K := fun c => if c = l then kk else k c) (X := fun c => if c = l then xx else x c) (K' := k) (X' := x) (fun j hj => ⟨by simp only [show ¬ j = l by omega, if_false], by simp only [show ¬ j = l by omega, if_false]⟩)]
  exact owns_setK hown (p := ⟨xb, 0, none⟩) hx _
end

end Go.Proofs.Ytgflalfiopnmnaa
