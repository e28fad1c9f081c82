import Derived.Test.YtcomcgjilhcimabG4
import Derived.Test.YtcomcgjilhcimabCnOut
namespace Go.Proofs.Ytcomcgjilhcimab
open Go.RowKit Vl

theorem okT_more {N n L : Nat} {K X : Nat → V} (h : OkT N L K X) : OkT (N + n) L K X := ⟨h.len, fun c hc => ⟨(h.all c hc).key, isV_more (h.all c hc).val, (h.all c hc).some, (h.all c hc).once⟩⟩
theorem okT_sh {N n L : Nat} {K X : Nat → V} (h : OkT n L K X) : OkT (N + n) L K (fun c => sh N (X c)) := ⟨h.len, fun c hc => ⟨(h.all c hc).key, sh_isV (h.all c hc).val, by rw [sh_k]; exact (h.all c hc).some, (h.all c hc).once⟩⟩
theorem okT_join {n m : Nat} {u u' : V} {L L' : Nat → Nat} {K X K' X' : Nat → Nat → V} (h : OkG n u L K X) (h' : OkG m u' L' K' X') : ∀ r, r < n + m → OkT (n + m) (jn n L L' r) (jn n K K' r) (jn n X (fun j c => sh n (X' j c)) r) := fun r hr => by
  by_cases e : r < n
  · rw [jn_lt e, jn_lt e, jn_lt e]
    exact okT_more (h.all r e)
  · rw [jn_ge e, jn_ge e, jn_ge e]
    exact okT_sh (h'.all (r - n) (by omega))

theorem ClsAre.uniqT {n : Nat} {L : Nat → Nat} {K X : Nat → Nat → V} {f f' : Nat → Nat} (hok : ∀ r, r < n → OkT n (L r) (K r) (X r)) (h : ClsAre n L K X f) (h' : ClsAre n L K X f') {i : Nat} (hi : i < n) : f i = f' i := by
  obtain ⟨ls, h1, h2⟩ := h
  obtain ⟨ls', k1, k2⟩ := h'
  have e : ∀ r, r < n → ls' r = ls r := fun r hr => SortI.one (hok r hr) (k1 r hr) (h1 r hr)
  have k3 := k2.agree (L' := L) (K' := sK K ls) (X' := sK X ls) (fun _ _ => rfl) (fun j hj => by unfold sK; rw [e j hj]) (fun j hj => by unfold sK; rw [e j hj])
  refine IsCls.uniq (fun r hr c hc => ?_) h2 k3 hi
  exact ((hok r hr).all _ ((h1 r hr).lt hc)).val

theorem fstV_k (f : Nat → Nat) (v : V) : (fstV f v).k = v.k := by unfold fstV; split <;> rfl
theorem fstV_a {f : Nat → Nat} {v : V} (h : v.k = 4) : (fstV f v).a.toNat = f v.a.toNat := by unfold fstV; rw [if_pos h]; simp
theorem fstV_ne {f : Nat → Nat} {v : V} (h : v.k ≠ 4) : fstV f v = v := by unfold fstV; rw [if_neg h]
theorem fstV_isV {f : Nat → Nat} {N : Nat} (hf : ∀ i, i < N → f i ≤ i) {v : V} (h : isV N v = true) : isV N (fstV f v) = true := by
  by_cases h4 : v.k = 4
  · obtain ⟨a0, a1⟩ := isV_tab h h4
    have hl := hf v.a.toNat (by omega)
    unfold fstV
    rw [if_pos h4]
    unfold isV at h ⊢
    rw [if_neg (by omega), if_neg (by omega), if_neg (by omega), if_neg (by omega), if_pos h4] at h
    rw [if_neg (by simp only; omega), if_neg (by simp only; omega), if_neg (by simp only; omega), if_neg (by simp only; omega), if_pos (by simp only; omega)]
    simp only [Bool.and_eq_true, decide_eq_true_eq] at h ⊢
    refine ⟨h.1, h.2.1, ?_, ?_⟩ <;> omega
  · rw [fstV_ne h4]; exact h
theorem alike_fst {T f : Nat → Nat} {N : Nat} (hinj : ∀ i j, i < N → j < N → T i = T j → i = j) (hf : ∀ i, i < N → f i ≤ i) {x y : V} (hx : isV N x = true) (hy : isV N y = true) : alike T (fstV f x) (fstV f y) = alike f x y := by
  rw [Bool.eq_iff_iff, alike_iff, alike_iff, fstV_k, fstV_k]
  constructor
  · rintro ⟨h1, h2, h3⟩
    refine ⟨h1, fun h4 => ?_, fun h4 => ?_⟩
    · have e := h2 h4
      rw [fstV_a h4, fstV_a (h1.symm.trans h4)] at e
      obtain ⟨a0, a1⟩ := isV_tab hx h4
      obtain ⟨b0, b1⟩ := isV_tab hy (h1.symm.trans h4)
      exact hinj _ _ (by have := hf x.a.toNat (by omega); omega) (by have := hf y.a.toNat (by omega); omega) e
    · have e := h3 h4
      rw [fstV_ne h4, fstV_ne (by rw [← h1]; exact h4)] at e
      exact e
  · rintro ⟨h1, h2, h3⟩
    refine ⟨h1, fun h4 => ?_, fun h4 => ?_⟩
    · rw [fstV_a h4, fstV_a (h1.symm.trans h4), h2 h4]
    · rw [fstV_ne h4, fstV_ne (by rw [← h1]; exact h4)]
      exact h3 h4
theorem alike_congr {f f' : Nat → Nat} {N : Nat} (h : ∀ i, i < N → f i = f' i) {x y : V} (hx : isV N x = true) (hy : isV N y = true) : alike f x y = alike f' x y := by
  rw [Bool.eq_iff_iff, alike_iff, alike_iff]
  have key : x.k = y.k → x.k = 4 → (f x.a.toNat = f y.a.toNat ↔ f' x.a.toNat = f' y.a.toNat) := fun h1 h4 => by
    obtain ⟨a0, a1⟩ := isV_tab hx h4
    obtain ⟨b0, b1⟩ := isV_tab hy (h1.symm.trans h4)
    rw [h _ (by omega), h _ (by omega)]
  exact ⟨fun ⟨h1, h2, h3⟩ => ⟨h1, fun h4 => (key h1 h4).1 (h2 h4), h3⟩, fun ⟨h1, h2, h3⟩ => ⟨h1, fun h4 => (key h1 h4).2 (h2 h4), h3⟩⟩

/-- The answer of 'Same', of two graphs. -/
def SameRes (e : Ending) (n m : Nat) (u u' : V) (L L' : Nat → Nat) (K X K' X' : Nat → Nat → V) : Prop :=
  ((OkG n u L K X ∧ OkG m u' L' K' X') ∧ ∃ f : Nat → Nat, ClsAre (n + m) (jn n L L') (jn n K K') (jn n X (fun j c => sh n (X' j c))) f ∧ e = .returned (.bool (alike f u (sh n u')))) ∨ (¬ (OkG n u L K X ∧ OkG m u' L' K' X') ∧ e = .returned (.bool false))

open Classical in
theorem same_fixed (n m : Nat) (u u' : V) (L L' : Nat → Nat) (K X K' X' : Nat → Nat → V) : ∃ b : Bool, ∀ e, SameRes e n m u u' L L' K X K' X' → e = .returned (.bool b) := by
  by_cases hok : OkG n u L K X ∧ OkG m u' L' K' X'
  · refine ⟨alike (Classical.epsilon (fun f => ClsAre (n + m) (jn n L L') (jn n K K') (jn n X (fun j c => sh n (X' j c))) f)) u (sh n u'), fun e h => ?_⟩
    rcases h with ⟨_, f, hf, rfl⟩ | ⟨hno, _⟩
    · have he := Classical.epsilon_spec (p := fun f => ClsAre (n + m) (jn n L L') (jn n K K') (jn n X (fun j c => sh n (X' j c))) f) ⟨f, hf⟩
      rw [alike_congr (fun i hi => hf.uniqT (okT_join hok.1 hok.2) he hi) (isV_more hok.1.root) (sh_isV hok.2.root)]
    · exact absurd hok hno
  · refine ⟨false, fun e h => ?_⟩
    rcases h with ⟨h, _⟩ | ⟨_, rfl⟩
    · exact absurd h hok
    · rfl

end Go.Proofs.Ytcomcgjilhcimab

namespace Go.Proofs.Ytcomcgjilhcimab
open Go.RowKit Vl

/-- Tables behind n others: the later ones are of the call's own making. -/
structure BTab (w : World) (base : Nat) (tv : Value) (n i : Nat) (PV : Nat → Value) (L : Nat → Nat) (K X : Nat → Nat → V) : Prop where
  own : w.ownsRow base 61 1 tv (n + i) ((List.range (n + i)).map PV)
  rows : ∀ j, j < i → w.ownsRow base 63 8 (PV (n + j)) (L j) (pairCells (K j) (X j) (L j))

theorem BTab.below {w w' : World} {base : Nat} {tv : Value} {n i : Nat} {PV : Nat → Value} {L : Nat → Nat} {K X : Nat → Nat → V} (h : BTab w base tv n i PV L K X) (hb : Below w.heap.size w w') : BTab w' base tv n i PV L K X :=
  ⟨(Only.below (P := fun _ => False) hb).owns h.own (fun _ _ _ h => h), fun j hj => (Only.below (P := fun _ => False) hb).owns (h.rows j hj) (fun _ _ _ h => h)⟩

/-- One table more. -/
theorem BTab.more {w w1 : World} {base : Nat} {tv tv' pv : Value} {n i : Nat} {PV : Nat → Value} {L : Nat → Nat} {K X : Nat → Nat → V} (h : BTab w base tv n i PV L K X) (hp : w.ownsRow base 63 8 pv (L i) (pairCells (K i) (X i) (L i))) (o : Obj) (hbz : base ≤ w.heap.size)
    (ho : w1.ownsRow base 61 1 tv' (n + i + 1) (((List.range (n + i)).map PV) ++ [pv])) (hg : (w.alloc o).grownBy w1 tv.ownBlock) :
    BTab w1 base tv' n (i + 1) (fun j => if j = n + i then pv else PV j) L K X ∧ Below base w w1 := by
  have keep : ∀ v n xs, w.ownsRow base 63 8 v n xs → w1.ownsRow base 63 8 v n xs := fun v n xs hr => by
    refine ⟨hr.1, ?_⟩
    rcases hr.2 with h2 | ⟨g, cap, cur, hv, hge, hh, r⟩
    · exact Or.inl h2
    · refine Or.inr ⟨g, cap, cur, hv, hge, ?_, r⟩
      rw [hg.block g (by have := lt_of_block hh; simp; omega) (fun e => ?_), Below.heap_alloc _ _ _ (lt_of_block hh)]
      · exact hh
      · obtain ⟨_, cur', h'⟩ := owns_type h.own e.symm
        rw [hh] at h'
        cases h'
  refine ⟨⟨?_, fun j hj => ?_⟩, ?_⟩
  · have e : ((List.range (n + i + 1)).map fun j => if j = n + i then pv else PV j) = ((List.range (n + i)).map PV) ++ [pv] := by
      rw [List.range_succ, List.map_append]
      congr 1
      · apply List.map_congr_left
        intro j hj
        have := List.mem_range.1 hj
        simp [show ¬ j = n + i by omega]
      · simp
    show w1.ownsRow base _ 1 tv' (n + i + 1) ((List.range (n + i + 1)).map _)
    rw [e]; exact ho
  · by_cases e : j = i
    · subst e; simp only [if_true]; exact keep _ _ _ hp
    · simp only [show ¬ n + j = n + i by omega, if_false]; exact keep _ _ _ (h.rows j (by omega))
  · refine ⟨hg.os, hg.tape, hg.output, by have := hg.size; simp at this; omega, fun k hk => ?_⟩
    rw [hg.block k (by simp; omega) (fun e => ?_), Below.heap_alloc _ _ _ (by omega)]
    have := (owns_type h.own e.symm).1
    omega

/-- What was made, as it is read. -/
theorem BTab.tabs {w : World} {base : Nat} {tv : Value} {ta : Option Addr} {n i TB TO : Nat} {PV : Nat → Value} {A : Nat → Option Addr} {L L' C RB RO : Nat → Nat} {K X K' X' : Nat → Nat → V} (h : BTab w base tv n i PV L' K' X') (hT : TabsAt w ta n TB TO A L C RB RO K X) (hP : ∀ j, j < n → PV j = .slice (A j) (L j) (C j)) :
    tv = .slice (slA tv) (n + i) (slC tv) ∧ TabsAt w (slA tv) (n + i) (slB tv) 0 (fun j => slA (PV j)) (jn n L L') (fun j => slC (PV j)) (jn n RB (fun j => slB (PV (n + j)))) (jn n RO (fun _ => 0)) (jn n K K') (jn n X X') := by
  have hrow : ∀ r, r < n + i → PV r = .slice (slA (PV r)) (jn n L L' r) (slC (PV r)) ∧ PairsAt w (slA (PV r)) (jn n L L' r) (jn n RB (fun j => slB (PV (n + j))) r) (jn n RO (fun _ => 0) r) (jn n K K' r) (jn n X X' r) := fun r hr => by
    by_cases e : r < n
    · simp only [jn_lt e]
      rw [hP r e]
      exact ⟨rfl, hT.row r e⟩
    · simp only [jn_ge e]
      have := owns_pairs (h.rows (r - n) (by omega))
      rw [show n + (r - n) = r by omega] at this ⊢
      exact this
  refine ⟨by obtain ⟨oa, oc, rfl, _⟩ := owns_form h.own; rfl, fun h0 => ?_, fun r hr => ?_, fun r hr => (hrow r hr).2⟩
  · obtain ⟨g, cap, rfl, _⟩ := owns_cell h.own (k := 0) (y := PV 0) (by simp [h0])
    rfl
  · obtain ⟨g, cap, rfl, hc⟩ := owns_cell h.own (k := r) (y := PV r) (by simp [hr])
    rw [Nat.zero_add]
    rw [← (hrow r hr).1]
    exact hc

end Go.Proofs.Ytcomcgjilhcimab

namespace Go.Proofs.Ytcomcgjilhcimab
open Go.RowKit Vl

/-- A table's pairs are written one behind the other into a row that a block holds. -/
structure InB (w2 wq : World) (xb : Nat) (pv : Value) (c : Nat) (K X : Nat → V) : Prop where
  out : wq.heap[xb]? = some (.cells #[pv] 61 (0, 0))
  row : wq.ownsRow w2.heap.size 63 8 pv c (pairCells K X c)
  only : Only (fun k => k = xb) w2 wq

theorem InB.more {w2 wq w6 : World} {xb g cap c : Nat} {pv : Value} {K X : Nat → V} {o1 o2 : Obj} (h : InB w2 wq xb pv c K X) (hx : xb < w2.heap.size) (hgrow : ((wq.alloc o1).alloc o2).grownBy w6 pv.ownBlock)
    (hown : w6.ownsRow w2.heap.size 63 8 (.slice (some ⟨g, 0, none⟩) (c + 1) cap) (c + 1) (pairCells K X c ++ [.int .i64 (K c).k, .int .i64 (K c).n, .string (K c).s, .int .i64 (K c).a, .int .i64 (X c).k, .int .i64 (X c).n, .string (X c).s, .int .i64 (X c).a])) :
    (w6.cell? ⟨xb, 0, none⟩ = some pv ∧ w6.frozen? ⟨xb, 0, none⟩ = false) ∧ InB w2 (w6.setCell ⟨xb, 0, none⟩ (.slice (some ⟨g, 0, none⟩) (c + 1) cap)) xb (.slice (some ⟨g, 0, none⟩) (c + 1) cap) (c + 1) K X := by
  obtain ⟨_, _, _, hk⟩ := owns_form h.row
  have hs := h.only.size
  have hbl : ∀ k, k < wq.heap.size → pv.ownBlock ≠ some k → w6.heap[k]? = wq.heap[k]? := fun k hk hne =>
    ((hgrow.block k (by simp; omega) (fun e => hne e.symm)).trans (Below.heap_alloc _ o2 k (by simp; omega))).trans (Below.heap_alloc wq o1 k hk)
  have n1 : pv.ownBlock ≠ some xb := fun e => by have := (hk _ e).1; omega
  have h6 : w6.heap[xb]? = some (.cells #[pv] 61 (0, 0)) := (hbl xb (by omega) n1).trans h.out
  have hsz : wq.heap.size ≤ w6.heap.size := by have := hgrow.size; simp at this; omega
  have ho : Only (fun k => k = xb) w2 w6 := ⟨hgrow.os.trans h.only.os, hgrow.tape.trans h.only.tape, hgrow.output.trans h.only.output, by omega, fun k hk' hp => (hbl k (by omega) (fun e => by have := (hk _ e).1; omega)).trans (h.only.block k hk' hp)⟩
  obtain ⟨c0, cz⟩ := one_at h6
  refine ⟨⟨c0, cz 0⟩, one_put h6 _, ?_, ho.set rfl _⟩
  rw [pairCells_succ]
  exact owns_setC hown (p := ⟨xb, 0, none⟩) hx _

theorem sh_cells {n : Nat} {x : V} {ya : Int} (h : sh n x = ⟨x.k, x.n, x.s, ya⟩) : [Value.int .i64 x.k, .int .i64 x.n, .string x.s, .int .i64 ya] = [.int .i64 (sh n x).k, .int .i64 (sh n x).n, .string (sh n x).s, .int .i64 (sh n x).a] := by rw [h]

set_option maxHeartbeats 4000000 in
set_option maxRecDepth 100000 in
/-- 'l3both'. -/
theorem l3both_any (u u' : V) (ta ta' : Option Addr) (n cp TB TO m cp' TB' TO' : Nat) (A A' : Nat → Option Addr) (L C RB RO L' C' RB' RO' : Nat → Nat) (K X K' X' : Nat → Nat → V) (w : World) (hn : n ≤ 200) (hm : m ≤ 200) (HL' : Hid (∀ r, r < m → L' r ≤ 100)) (HG' : Hid (Good m L' X')) (HT : Hid (TabsAt w ta n TB TO A L C RB RO K X)) (HT' : Hid (TabsAt w ta' m TB' TO' A' L' C' RB' RO' K' X')) :
    Calls Try.prog 63 #[.agg #[.int .i64 u.k, .int .i64 u.n, .string u.s, .int .i64 u.a, .slice ta n cp], .agg #[.int .i64 u'.k, .int .i64 u'.n, .string u'.s, .int .i64 u'.a, .slice ta' m cp']] w fun e w' => (∃ (oa : Option Addr) (oc OB : Nat) (A2 : Nat → Option Addr) (C2 RB2 RO2 : Nat → Nat), e = .returned (.slice oa (n + m) oc) ∧ TabsAt w' oa (n + m) OB 0 A2 (jn n L L') C2 RB2 RO2 (jn n K K') (jn n X (fun j c => sh n (X' j c)))) ∧ Below w.heap.size w w' := by
  have A2 := alloc2 w (.cells #[.int .i64 u.k, .int .i64 u.n, .string u.s, .int .i64 u.a, .slice ta n cp] 32) (.cells #[.int .i64 u'.k, .int .i64 u'.n, .string u'.s, .int .i64 u'.a, .slice ta' m cp'] 32)
  obtain ⟨w1, hw1⟩ : ∃ w1, w1 = (w.alloc (.cells #[.int .i64 u.k, .int .i64 u.n, .string u.s, .int .i64 u.a, .slice ta n cp] 32)).alloc (.cells #[.int .i64 u'.k, .int .i64 u'.n, .string u'.s, .int .i64 u'.a, .slice ta' m cp'] 32) := ⟨_, rfl⟩
  rw [← hw1] at A2
  have HB1 : Hid (Below w.heap.size w w1) := A2.2.2.2
  have G1 : Hid (w1.heap[w.heap.size]? = some (.cells #[.int .i64 u.k, .int .i64 u.n, .string u.s, .int .i64 u.a, .slice ta n cp] 32 (0, 0))) := A2.1
  have G2 : Hid (w1.heap[w.heap.size + 1]? = some (.cells #[.int .i64 u'.k, .int .i64 u'.n, .string u'.s, .int .i64 u'.a, .slice ta' m cp'] 32 (0, 0))) := A2.2.1
  clear A2
  obtain ⟨it, hti, ht0, ht1, ht2⟩ := info_parts Try.info61
  obtain ⟨ip, hpi, hp0, hp1, hp2⟩ := info_parts Try.info63
  go_enter Try.func63, Try.ntmps63
  go_wp2
  rw [← hw1]
  clear hw1
  obtain ⟨b1, hb1⟩ : ∃ b, w1.heap.size = b := ⟨_, rfl⟩
  have HBS : Hid (w1.heap.size = b1) := hb1
  go_loopw [5, 16] (fun sv ii wr => ∃ i : Nat, i ≤ n ∧ ii = .int .i64 i ∧ Hid (wr.ownsRow b1 61 1 sv i ((List.range i).map fun r => .slice (A r) (L r) (C r))) ∧ Hid (Below b1 w1 wr)) (fun _ ii _ => n - (intOf ii).toNat)
  case atStart => exact ⟨0, Nat.zero_le _, rfl, World.ownsRow_nil _ _ _ _, Below.refl _ _⟩
  case round =>
    obtain ⟨i, hi, rfl, HO, HB⟩ := hrel
    have HBw : Hid (Below w.heap.size w wr) := HB1.out.trans (HB.out.mono (by have := HB1.out.size; omega))
    obtain ⟨sa, sc, rfl, hsk⟩ := owns_form HO.out
    have HSK : Hid (∀ k, (Value.slice sa i sc).ownBlock = some k → b1 ≤ k ∧ k < wr.heap.size) := hsk
    clear hsk
    have hsr : b1 ≤ wr.heap.size := by have := HB.out.size; omega
    by_cases hlt : i < n
    · have hta := HT.out.top (by omega)
      subst hta
      have t0 := (HT.out.below HBw.out).tab i hlt
      obtain ⟨pa, hpa⟩ : ∃ a, A i = a := ⟨_, rfl⟩
      obtain ⟨l, hl⟩ : ∃ a, L i = a := ⟨_, rfl⟩
      obtain ⟨pc, hpc⟩ : ∃ a, C i = a := ⟨_, rfl⟩
      rw [hpa, hl, hpc] at t0
      obtain ⟨wt, hwt⟩ : ∃ wt, wt = wr.alloc (.cells #[.slice pa l pc] 61) := ⟨_, rfl⟩
      have hbt : Below wr.heap.size wr wt := by rw [hwt]; exact (Below.refl _ _).alloc (Nat.le_refl _) _
      have hst : wt.heap.size = wr.heap.size + 1 := by rw [hwt]; simp
      have HST : Hid (wt.heap.size = wr.heap.size + 1) := hst
      have HOt : Hid (wt.ownsRow b1 61 1 (.slice sa i sc) i ((List.range i).map fun r => .slice (A r) (L r) (C r))) := (Only.below (P := fun _ => False) hbt).owns HO.out (fun _ _ _ h => h)
      have HBt : Hid (Below b1 w1 wt) := HB.out.trans (hbt.mono (by omega))
      clear hst hbt HO HB hpi hp0 hp1 hp2 hb1
      go_wp2_with (at_builtin; refine wpList_append_lies _ (by rfl) (.tmp 20) (.tmp 22) 30 (by rfl) b1 61 it (.agg #[.slice none 0 0]) 1 24 Try.underlying30 hti ht0 ht1 ht2 (by rfl) (by omega) (.slice sa i sc) i ((List.range i).map fun r => .slice (A r) (L r) (C r)) (by rfl) (by rw [← hwt]; exact HOt.out.alloc _) ⟨wr.heap.size + 1, 0, none⟩ 1 1 [.slice pa l pc] (by rfl) (by rfl) ?c1 ?c2 (by omega) ?c3 ?c4 ?c5 (wr.heap.size + 2) ?c6 ?_)
      case c1 => exact World.news_of_block (alloc2 wr _ _).2.1
      case c2 => intro v hv; simp at hv; subst hv; rfl
      case c3 => unfold maxLen; omega
      case c4 => omega
      case c5 => simp; omega
      case c6 => simp
      intro g cap w6 hown6 hgrow6 hat6 hlt6
      have hb6 : Below b1 (wt.alloc (.cells #[.slice pa l pc] 61)) w6 := below_grown (HOt.out.alloc _) (by rw [hwt]; exact hgrow6) (by have := HST.out; simp; omega)
      have HB6 : Hid (Below b1 w1 w6) := (HBt.out.trans ((Below.refl _ _).alloc (by have := HST.out; omega) _)).trans hb6
      have HO6 : Hid (w6.ownsRow b1 61 1 (.slice (some ⟨g, 0, none⟩) (i + 1) cap) (i + 1) ((List.range (i + 1)).map fun r => .slice (A r) (L r) (C r))) := by
        rw [List.range_succ, List.map_append]
        simp only [List.map_cons, List.map_nil, hpa, hl, hpc]
        exact hown6
      clear hown6 hgrow6 hat6 hlt6 hb6 HOt HBt hwt t0 HST
      go_wp2
      go_roundw
      case rel => exact ⟨i + 1, by omega, by go_num, HO6, HB6⟩
      case measure => simp [intOf]; omega
    · obtain rfl : i = n := by omega
      obtain ⟨x0, x1, x2, x3, x4, _⟩ := cells5 ((HB.out.block _ (by have := blk_lt G2.out; omega)).trans G2.out)
      obtain ⟨ws, hws⟩ : ∃ ws, ws = wr := ⟨_, rfl⟩
      rw [← hws] at HO HB
      have HBT : Hid (BTab ws b1 (.slice sa i sc) i 0 (fun r => .slice (A r) (L r) (C r)) L' K' (fun j c => sh i (X' j c))) := ⟨HO.out, fun j hj => absurd hj (Nat.not_lt_zero _)⟩
      clear HO
      go_wp2
      rw [← hws]
      clear hws x0 x1 x2 x3 x4
      go_loopw [5, 28] (fun sv ii wr => ∃ (q : Nat) (PV : Nat → Value), q ≤ m ∧ ii = .int .i64 q ∧ Hid (BTab wr b1 sv i q PV L' K' (fun j c => sh i (X' j c))) ∧ Hid (∀ j, j < i → PV j = .slice (A j) (L j) (C j)) ∧ Hid (Below b1 w1 wr)) (fun _ ii _ => m - (intOf ii).toNat)
      case atStart => exact ⟨0, _, Nat.zero_le _, rfl, HBT, fun j hj => rfl, HB⟩
      case round =>
        obtain ⟨q, PV, hq, rfl, HQ, HPV, HBr⟩ := hrel
        clear HBT HB HBw
        have HBw : Hid (Below w.heap.size w wr) := HB1.out.trans (HBr.out.mono (by have := HB1.out.size; omega))
        obtain ⟨va, vc, rfl, hvk⟩ := owns_form HQ.out.own
        have hsr' : b1 ≤ wr.heap.size := by have := HBr.out.size; omega
        by_cases hlq : q < m
        · have hta := HT'.out.top (by omega)
          subst hta
          have t0 := (HT'.out.below HBw.out).tab q hlq
          obtain ⟨pa, hpa⟩ : ∃ a, A' q = a := ⟨_, rfl⟩
          obtain ⟨l, hl⟩ : ∃ a, L' q = a := ⟨_, rfl⟩
          obtain ⟨pc, hpc⟩ : ∃ a, C' q = a := ⟨_, rfl⟩
          rw [hpa, hl, hpc] at t0
          have HP : Hid (PairsAt w pa l (RB' q) (RO' q) (K' q) (X' q)) := by rw [← hpa, ← hl]; exact HT'.out.row q hlq
          have hl100 : l ≤ 100 := by rw [← hl]; exact HL'.out q hlq
          have HGl : Hid (∀ c, c < l → isV m (X' q c) = true) := show ∀ c, _ from fun c hc => HG'.out q hlq c (by rw [hl]; exact hc)
          have A2 := alloc2 wr (.cells #[.slice pa l pc] 61) (.cells #[.slice none 0 0] 61)
          obtain ⟨w2, hw2⟩ : ∃ w2, w2 = (wr.alloc (.cells #[.slice pa l pc] 61)).alloc (.cells #[.slice none 0 0] 61) := ⟨_, rfl⟩
          rw [← hw2] at A2
          have HBw2 : Hid (Below w.heap.size w w2) := HBw.out.trans (A2.2.2.2.mono HBw.out.size)
          have HBb2 : Hid (Below b1 w1 w2) := HBr.out.trans (A2.2.2.2.mono hsr')
          have HQ2 : Hid (BTab w2 b1 (.slice va (i + q) vc) i q PV L' K' (fun j c => sh i (X' j c))) := HQ.out.below A2.2.2.2
          have hs2 : Hid (w2.heap.size = wr.heap.size + 2) := A2.2.2.1
          obtain ⟨xb, hxb⟩ : ∃ xb, wr.heap.size + 1 = xb := ⟨_, rfl⟩
          have HX2 : Hid (w2.heap[xb]? = some (.cells #[.slice none 0 0] 61 (0, 0))) := by rw [← hxb]; exact A2.2.1
          have HXl : Hid (xb < w2.heap.size ∧ b1 ≤ xb ∧ w.heap.size ≤ xb) := ⟨by rw [hs2.out]; omega, by omega, by have := HBw.out.size; omega⟩
          have HVK : Hid (∀ g, (Value.slice va (i + q) vc).ownBlock = some g → g ≠ xb) := show ∀ g, _ from fun g hg => by have := (hvk g hg).2; omega
          have HIN : Hid (InB w2 w2 xb (.slice none 0 0) 0 (K' q) (fun c => sh i (X' q c))) := ⟨HX2.out, World.ownsRow_nil _ _ _ _, Only.refl _ _⟩
          clear A2 HQ HBr hb1 hvk
          go_wp2
          rw [← hw2]
          try rw [hxb]
          clear hw2 t0 hxb
          go_loopw [35] (fun ii wq => ∃ (c : Nat) (pv : Value), c ≤ l ∧ ii = .int .i64 c ∧ Hid (InB w2 wq xb pv c (K' q) (fun c => sh i (X' q c)))) (fun ii _ => l - (intOf ii).toNat)
          case atStart => exact ⟨0, _, Nat.zero_le _, rfl, HIN⟩
          case round =>
            obtain ⟨c, pv, hc, rfl, HI⟩ := hrel
            clear HIN
            obtain ⟨qa, qc, rfl, hqk⟩ := owns_form HI.out.row
            clear hqk
            have HBq : Hid (Below w.heap.size w wr) := HBw2.out.trans (HI.out.only.toBelow (fun k hk => by have := HXl.out.2.2; omega) HBw2.out.size)
            by_cases hlc : c < l
            · obtain rfl := HP.out.top (by omega)
              obtain ⟨⟨k0, k1, k2, k3⟩, ⟨v0, v1, v2, v3⟩⟩ := (HP.out.below HBq.out).cells hlc
              obtain ⟨kc, HKC⟩ : ∃ kc, Hid (K' q c = kc) := ⟨_, rfl⟩
              obtain ⟨xc, HXC⟩ : ∃ xc, Hid (X' q c = xc) := ⟨_, rfl⟩
              rw [HKC.out] at k0 k1 k2 k3
              rw [HXC.out] at v0 v1 v2 v3
              have hvx : isV m xc = true := by rw [← HXC.out]; exact HGl.out c hlc
              have HG1 : Hid (wr.heap[w.heap.size]? = some (.cells #[.int .i64 u.k, .int .i64 u.n, .string u.s, .int .i64 u.a, .slice ta i cp] 32 (0, 0))) := by
                have h1 := (HBb2.out.block _ (by have := blk_lt G1.out; have := HBS.out; omega)).trans G1.out
                exact (HI.out.only.block _ (blk_lt h1) (by have := blk_lt G1.out; have := HXl.out.2.1; have := HBS.out; omega)).trans h1
              obtain ⟨g0, g1, g2, g3, g4, _⟩ := cells5 HG1.out
              obtain ⟨y0, y1⟩ := one_at HI.out.out
              have hxq : xb < wr.heap.size := by have := HXl.out.1; have := HI.out.only.size; omega
              have hxq' : xb < wr.heap.size + 1 := by omega
              have hgl : w.heap.size < wr.heap.size := blk_lt HG1.out
              have hgl' : w.heap.size < wr.heap.size + 1 := by omega
              by_cases h4 : xc.k = 4
              · obtain ⟨a0, a1⟩ := isV_tab hvx h4
                obtain ⟨ya, hya⟩ : ∃ ya : Int, xc.a + (i : Int) = ya := ⟨_, rfl⟩
                have HSH : Hid (sh i xc = ⟨xc.k, xc.n, xc.s, ya⟩) := by show sh i xc = _; unfold sh; rw [if_pos h4, hya]
                have hk4 : (xc.k == 4) = true := by simp [h4]
                have hwr : IntKind.i64.wrap (xc.a + (i : Int)) = ya := by rw [IntKind.wrap_i64]; omega
                clear h4 hya hvx a0 a1
                go_wp2_with (at_builtin; refine wpList_append_lies _ (by rfl) (.tmp 53) (.tmp 55) 59 (by rfl) w2.heap.size 63 ip (.agg #[.int .i64 0, .int .i64 0, .string ⟨#[]⟩, .int .i64 0, .int .i64 0, .int .i64 0, .string ⟨#[]⟩, .int .i64 0]) 8 80 Try.underlying59 hpi hp0 hp1 hp2 (by rfl) (by omega) (.slice qa c qc) c (pairCells (K' q) (fun c => sh i (X' q c)) c) (by rfl) ((HI.out.row.alloc _).alloc _) ⟨wr.heap.size + 1, 0, none⟩ 1 1 [.int .i64 kc.k, .int .i64 kc.n, .string kc.s, .int .i64 kc.a, .int .i64 xc.k, .int .i64 xc.n, .string xc.s, .int .i64 ya] (by rfl) (by rfl) ?c1 ?c2 (by omega) ?c3 ?c4 ?c5 (wr.heap.size + 2) ?c6 ?_)
                case c1 => exact World.news_of_block (alloc2 wr _ _).2.1
                case c2 => intro v hv; simp at hv; rcases hv with rfl | rfl | rfl | rfl | rfl | rfl | rfl | rfl <;> rfl
                case c3 => unfold maxLen; omega
                case c4 => omega
                case c5 => have := HI.out.only.size; simp; omega
                case c6 => simp
                intro g cap w6 hown6 hgrow6 hat6 hlt6
                obtain ⟨⟨z0, z1⟩, hI⟩ := HI.out.more HXl.out.1 hgrow6 (by
                  have e := HSH.out
                  simp only [HKC.out, HXC.out, e]
                  exact hown6)
                have HI6 : Hid (InB w2 (w6.setCell ⟨xb, 0, none⟩ (.slice (some ⟨g, 0, none⟩) (c + 1) cap)) xb (.slice (some ⟨g, 0, none⟩) (c + 1) cap) (c + 1) (K' q) (fun c => sh i (X' q c))) := hI
                clear hown6 hgrow6 hat6 hlt6 hI k0 k1 k2 k3 v0 v1 v2 v3 g0 g1 g2 g3 g4 y0 y1
                go_wp2
                go_roundw
                case rel => exact ⟨c + 1, _, by omega, by go_num, HI6⟩
                case measure => simp [intOf]; omega
              · have HSH : Hid (sh i xc = ⟨xc.k, xc.n, xc.s, xc.a⟩) := by show sh i xc = _; unfold sh; rw [if_neg h4]
                have hk4 : (xc.k == 4) = false := by simp [h4]
                clear h4 hvx
                go_wp2_with (at_builtin; refine wpList_append_lies _ (by rfl) (.tmp 53) (.tmp 55) 59 (by rfl) w2.heap.size 63 ip (.agg #[.int .i64 0, .int .i64 0, .string ⟨#[]⟩, .int .i64 0, .int .i64 0, .int .i64 0, .string ⟨#[]⟩, .int .i64 0]) 8 80 Try.underlying59 hpi hp0 hp1 hp2 (by rfl) (by omega) (.slice qa c qc) c (pairCells (K' q) (fun c => sh i (X' q c)) c) (by rfl) ((HI.out.row.alloc _).alloc _) ⟨wr.heap.size + 1, 0, none⟩ 1 1 [.int .i64 kc.k, .int .i64 kc.n, .string kc.s, .int .i64 kc.a, .int .i64 xc.k, .int .i64 xc.n, .string xc.s, .int .i64 xc.a] (by rfl) (by rfl) ?c1 ?c2 (by omega) ?c3 ?c4 ?c5 (wr.heap.size + 2) ?c6 ?_)
                case c1 => exact World.news_of_block (alloc2 wr _ _).2.1
                case c2 => intro v hv; simp at hv; rcases hv with rfl | rfl | rfl | rfl | rfl | rfl | rfl | rfl <;> rfl
                case c3 => unfold maxLen; omega
                case c4 => omega
                case c5 => have := HI.out.only.size; simp; omega
                case c6 => simp
                intro g cap w6 hown6 hgrow6 hat6 hlt6
                obtain ⟨⟨z0, z1⟩, hI⟩ := HI.out.more HXl.out.1 hgrow6 (by
                  have e := HSH.out
                  simp only [HKC.out, HXC.out, e]
                  exact hown6)
                have HI6 : Hid (InB w2 (w6.setCell ⟨xb, 0, none⟩ (.slice (some ⟨g, 0, none⟩) (c + 1) cap)) xb (.slice (some ⟨g, 0, none⟩) (c + 1) cap) (c + 1) (K' q) (fun c => sh i (X' q c))) := hI
                clear hown6 hgrow6 hat6 hlt6 hI k0 k1 k2 k3 v0 v1 v2 v3 g0 g1 g2 g3 g4 y0 y1
                go_wp2
                go_roundw
                case rel => exact ⟨c + 1, _, by omega, by go_num, HI6⟩
                case measure => simp [intOf]; omega
            · obtain rfl : c = l := by omega
              obtain ⟨y0, y1⟩ := one_at HI.out.out
              have HQ3 : Hid (BTab wr b1 (.slice va (i + q) vc) i q PV L' K' (fun j c => sh i (X' j c))) := by
                have hk := HXl.out
                refine ⟨HI.out.only.ownsB HQ2.out.own (fun g hg e => ?_), fun j hj => HI.out.only.ownsB (HQ2.out.rows j hj) (fun g hg e => ?_)⟩
                · exact HVK.out g hg e
                · obtain ⟨_, cur, hcur⟩ := owns_type (HQ2.out.rows j hj) hg
                  subst e
                  rw [HX2.out] at hcur
                  cases hcur
              have hs3 : b1 ≤ wr.heap.size := by have := HXl.out; have := HI.out.only.size; omega
              have HB3 : Hid (Below b1 w1 wr) := HBb2.out.trans (HI.out.only.toBelow (fun k hk => by have := HXl.out.2.1; omega) (by have := HBb2.out.size; have := HBS.out; omega))
              have HR3 : Hid (wr.ownsRow b1 63 8 (.slice qa c qc) (L' q) (pairCells (K' q) (fun c => sh i (X' q c)) (L' q))) := by rw [hl]; exact owns_mono HI.out.row (by have := HXl.out; omega)
              have hiq : i + q ≤ 400 := by omega
              go_wp2_with (at_builtin; refine wpList_append_lies _ (by rfl) (.tmp 59) (.tmp 61) 30 (by rfl) b1 61 it (.agg #[.slice none 0 0]) 1 24 Try.underlying30 hti ht0 ht1 ht2 (by rfl) (by omega) (.slice va (i + q) vc) (i + q) ((List.range (i + q)).map PV) (by rfl) (HQ3.out.own.alloc _) ⟨wr.heap.size, 0, none⟩ 1 1 [.slice qa c qc] (by rfl) (by rfl) ?c1 ?c2 (by omega) ?c3 ?c4 ?c5 (wr.heap.size + 1) ?c6 ?_)
              case c1 => exact World.news_of_block (heap_alloc_new wr _)
              case c2 => intro v hv; simp at hv; subst hv; rfl
              case c3 => unfold maxLen; omega
              case c4 => omega
              case c5 => simp; omega
              case c6 => simp
              intro g cap w7 hown7 hgrow7 hat7 hlt7
              obtain ⟨hT7, hB7⟩ := HQ3.out.more HR3.out _ hs3 hown7 hgrow7
              have HT7 : Hid (BTab w7 b1 (.slice (some ⟨g, 0, none⟩) (i + q + 1) cap) i (q + 1) (fun j => if j = i + q then .slice qa c qc else PV j) L' K' (fun j c => sh i (X' j c))) := hT7
              have HB7 : Hid (Below b1 w1 w7) := HB3.out.trans hB7
              have HPV' : Hid (∀ j, j < i → (fun j => if j = i + q then .slice qa c qc else PV j) j = .slice (A j) (L j) (C j)) := show ∀ j, _ from fun j hj => by
                show (if j = i + q then _ else PV j) = _
                rw [if_neg (by omega)]
                exact HPV.out j hj
              clear hT7 hB7 hown7 hgrow7 hat7 hlt7 HQ3 HB3 HR3 y0 y1 HI
              go_wp2
              go_roundw
              case rel => exact ⟨q + 1, _, by omega, by go_num, HT7, HPV', HB7⟩
              case measure => simp [intOf]; omega
        · clear hvk
          obtain rfl : q = m := by omega
          have hTt := HQ.out.tabs (HT.out.below HBw.out) HPV.out
          go_wp2
          go_ret
          exact ⟨⟨va, vc, _, _, _, _, _, rfl, hTt.2⟩, HBw.out⟩

end Go.Proofs.Ytcomcgjilhcimab

namespace Go.Proofs.Ytcomcgjilhcimab
open Go.RowKit Vl

theorem cells4' {w : World} {B : Nat} {a b c d : Value} {t : TypeId} (H : w.heap[B]? = some (.cells #[a, b, c, d] t (0, 0))) : w.cell? ⟨B, 0, none⟩ = some a ∧ w.cell? ⟨B, 1, none⟩ = some b ∧ w.cell? ⟨B, 2, none⟩ = some c ∧ w.cell? ⟨B, 3, none⟩ = some d ∧ ∀ i, w.frozen? ⟨B, i, none⟩ = false := by
  refine ⟨?_, ?_, ?_, ?_, fun i => ?_⟩ <;> simp [World.cell?, World.frozen?, H]

set_option maxHeartbeats 4000000 in
set_option maxRecDepth 100000 in
/-- 'spec.Same'. -/
theorem specSame_any (u u' : V) (ta ta' : Option Addr) (n cp TB TO m cp' TB' TO' : Nat) (A A' : Nat → Option Addr) (L C RB RO L' C' RB' RO' : Nat → Nat) (K X K' X' : Nat → Nat → V) (w : World) (hn : n ≤ 1048576) (hm : m ≤ 1048576) (HS : Hid (Small 1048576 n L K X)) (HS' : Hid (Small 1048576 m L' K' X')) (HT : Hid (TabsAt w ta n TB TO A L C RB RO K X)) (HT' : Hid (TabsAt w ta' m TB' TO' A' L' C' RB' RO' K' X')) :
    Calls Try.prog 30 #[.agg #[.int .i64 u.k, .int .i64 u.n, .string u.s, .int .i64 u.a, .slice ta n cp], .agg #[.int .i64 u'.k, .int .i64 u'.n, .string u'.s, .int .i64 u'.a, .slice ta' m cp']] w fun e w' => SameRes e n m u u' L L' K X K' X' ∧ Below w.heap.size w w' := by
  have A2 := alloc2 w (.cells #[.int .i64 u.k, .int .i64 u.n, .string u.s, .int .i64 u.a, .slice ta n cp] 32) (.cells #[.int .i64 u'.k, .int .i64 u'.n, .string u'.s, .int .i64 u'.a, .slice ta' m cp'] 32)
  obtain ⟨w1, hw1⟩ : ∃ w1, w1 = (w.alloc (.cells #[.int .i64 u.k, .int .i64 u.n, .string u.s, .int .i64 u.a, .slice ta n cp] 32)).alloc (.cells #[.int .i64 u'.k, .int .i64 u'.n, .string u'.s, .int .i64 u'.a, .slice ta' m cp'] 32) := ⟨_, rfl⟩
  rw [← hw1] at A2
  have HB1 : Hid (Below w.heap.size w w1) := A2.2.2.2
  have G1 : Hid (w1.heap[w.heap.size]? = some (.cells #[.int .i64 u.k, .int .i64 u.n, .string u.s, .int .i64 u.a, .slice ta n cp] 32 (0, 0))) := A2.1
  have G2 : Hid (w1.heap[w.heap.size + 1]? = some (.cells #[.int .i64 u'.k, .int .i64 u'.n, .string u'.s, .int .i64 u'.a, .slice ta' m cp'] 32 (0, 0))) := A2.2.1
  clear A2
  have hok := specOk_any u ta n cp TB TO A L C RB RO K X w1 hn HS (HT.out.below HB1.out)
  go_enter Try.func30, Try.ntmps30
  go_wp2_with fail
  rw [← hw1]
  refine hok.mono ?_
  clear hok hw1
  rintro e w2 ⟨⟨b, rfl, hb⟩, hb2⟩
  have HB2 : Hid (Below w.heap.size w w2) := grw HB1.out hb2
  have H2 : Hid (w2.heap[w.heap.size]? = some (.cells #[.int .i64 u.k, .int .i64 u.n, .string u.s, .int .i64 u.a, .slice ta n cp] 32 (0, 0))) := blkB G1.out hb2
  have H2' : Hid (w2.heap[w.heap.size + 1]? = some (.cells #[.int .i64 u'.k, .int .i64 u'.n, .string u'.s, .int .i64 u'.a, .slice ta' m cp'] 32 (0, 0))) := blkB G2.out hb2
  clear hb2 G1 G2 HB1
  cases b
  · have HN : Hid (¬ (OkG n u L K X ∧ OkG m u' L' K' X')) := show ¬ _ from fun h => by have := hb.2 h.1; cases this
    clear hb
    go_wp2
    go_ret
    exact ⟨Or.inr ⟨HN.out, rfl⟩, HB2.out⟩
  have HO : Hid (OkG n u L K X) := hb.1 rfl
  clear hb
  have hok := specOk_any u' ta' m cp' TB' TO' A' L' C' RB' RO' K' X' w2 hm HS' (HT'.out.below HB2.out)
  obtain ⟨x0, x1, x2, x3, x4, _⟩ := cells5 H2'.out
  go_wp2_with fail
  refine hok.mono ?_
  clear hok x0 x1 x2 x3 x4
  rintro e w3 ⟨⟨b, rfl, hb⟩, hb3⟩
  have HB3 : Hid (Below w.heap.size w w3) := grw HB2.out hb3
  have H3 : Hid (w3.heap[w.heap.size]? = some (.cells #[.int .i64 u.k, .int .i64 u.n, .string u.s, .int .i64 u.a, .slice ta n cp] 32 (0, 0))) := blkB H2.out hb3
  have H3' : Hid (w3.heap[w.heap.size + 1]? = some (.cells #[.int .i64 u'.k, .int .i64 u'.n, .string u'.s, .int .i64 u'.a, .slice ta' m cp'] 32 (0, 0))) := blkB H2'.out hb3
  clear hb3 H2 H2' HB2
  cases b
  · have HN : Hid (¬ (OkG n u L K X ∧ OkG m u' L' K' X')) := show ¬ _ from fun h => by have := hb.2 h.2; cases this
    clear hb
    go_wp2
    go_ret
    exact ⟨Or.inr ⟨HN.out, rfl⟩, HB3.out⟩
  have HO' : Hid (OkG m u' L' K' X') := hb.1 rfl
  clear hb
  have HNM : Hid (n + m ≤ 400) := show _ ≤ _ by have := HO.out.len; have := HO'.out.len; omega
  have HLj : Hid (∀ r, r < n + m → jn n L L' r ≤ 100) := show ∀ r, _ from fun r hr => (okT_join HO.out HO'.out r hr).len
  have HGj : Hid (Good (n + m) (jn n L L') (jn n X (fun j c => sh n (X' j c)))) := (good_of HO.out).join (good_of HO'.out)
  have HZj : Hid (∀ r, r < n + m → ∀ c, c < jn n L L' r → (jn n K K' r c).s.size ≤ 9223372036854775807) := show ∀ r, _ from fun r hr c hc => by
    by_cases e : r < n
    · rw [jn_lt e] at hc ⊢
      have := ((HS.out r e).2 c hc).1
      omega
    · rw [jn_ge e] at hc ⊢
      have := ((HS'.out (r - n) (by omega)).2 c hc).1
      omega
  obtain ⟨x0, x1, x2, x3, x4, _⟩ := cells5 H3'.out
  obtain ⟨g0, g1, g2, g3, g4, _⟩ := cells5 H3.out
  have hgl : w.heap.size < w3.heap.size := blk_lt H3.out
  have hgl1 : w.heap.size + 1 < w3.heap.size := blk_lt H3'.out
  have hur := HO'.out.root
  by_cases h4 : u'.k = 4
  · obtain ⟨a0, a1⟩ := isV_tab hur h4
    obtain ⟨ya, hya⟩ : ∃ ya : Int, u'.a + (n : Int) = ya := ⟨_, rfl⟩
    have hk4 : (u'.k == 4) = true := by simp [h4]
    have hnn := HO.out.len
    have hmm := HO'.out.len
    have hwr : IntKind.i64.wrap (u'.a + (n : Int)) = ya := by rw [IntKind.wrap_i64]; omega
    have HSH : Hid (sh n u' = ⟨u'.k, u'.n, u'.s, ya⟩) := by show sh n u' = _; unfold sh; rw [if_pos h4, hya]
    clear h4 hya a0 a1 hnn hmm hur
    obtain ⟨w4, hw4⟩ : ∃ w4, w4 = w3.alloc (.cells #[.int .i64 u'.k, .int .i64 u'.n, .string u'.s, .int .i64 ya] 29) := ⟨_, rfl⟩
    have hb4 : Below w3.heap.size w3 w4 := by rw [hw4]; exact (Below.refl _ _).alloc (Nat.le_refl _) _
    have HB4 : Hid (Below w.heap.size w w4) := grw HB3.out hb4
    have H4 : Hid (w4.heap[w.heap.size]? = some (.cells #[.int .i64 u.k, .int .i64 u.n, .string u.s, .int .i64 u.a, .slice ta n cp] 32 (0, 0))) := blkB H3.out hb4
    have H4' : Hid (w4.heap[w.heap.size + 1]? = some (.cells #[.int .i64 u'.k, .int .i64 u'.n, .string u'.s, .int .i64 u'.a, .slice ta' m cp'] 32 (0, 0))) := blkB H3'.out hb4
    obtain ⟨rb, hrb⟩ : ∃ rb, w3.heap.size = rb := ⟨_, rfl⟩
    have R4 : Hid (w4.heap[rb]? = some (.cells #[.int .i64 u'.k, .int .i64 u'.n, .string u'.s, .int .i64 ya] 29 (0, 0))) := by rw [hw4, ← hrb]; exact heap_alloc_new _ _
    rw [hrb] at hgl hgl1
    have HAL : Hid (∀ (f : Nat → Nat) (g : Nat) (w' : World), ClsAt w' g (n + m) f → Calls Try.prog 61 #[.agg #[.int .i64 u.k, .int .i64 u.n, .string u.s, .int .i64 u.a], .agg #[.int .i64 u'.k, .int .i64 u'.n, .string u'.s, .int .i64 ya], .slice (some ⟨g, 0, none⟩) (n + m) (n + m)] w' fun e w'' => e = .returned (.bool (alike f u ⟨u'.k, u'.n, u'.s, ya⟩)) ∧ Below w'.heap.size w' w'') := show ∀ _, _ from fun f g w' hC => by
      have h := l3alike_any u (sh n u') (n + m) g (n + m) f w' (isV_more HO.out.root) (sh_isV HO'.out.root) hC
      rw [HSH.out] at h
      exact h
    clear hb4 H3 H3' HB3
    go_wp2
    rw [← hw4]
    try rw [hrb]
    clear hw4 hrb g0 g1 g2 g3 g4 x0 x1 x2 x3 x4
    have HT4 : Hid (TabsAt w4 ta n TB TO A L C RB RO K X) := HT.out.below HB4.out
    have HT4' : Hid (TabsAt w4 ta' m TB' TO' A' L' C' RB' RO' K' X') := HT'.out.below HB4.out
    have hboth := l3both_any u u' ta ta' n cp TB TO m cp' TB' TO' A A' L C RB RO L' C' RB' RO' K X K' X' w4.drew HO.out.len HO'.out.len (show ∀ r, _ from fun r hr => (HO'.out.all r hr).len) (good_of HO'.out) (HT4.out.below (Below.refl _ _).drew) (HT4'.out.below (Below.refl _ _).drew)
    obtain ⟨g0, g1, g2, g3, g4, _⟩ := cells5 H4.out
    obtain ⟨x0, x1, x2, x3, x4, _⟩ := cells5 H4'.out
    obtain ⟨r0, r1, r2, r3, _⟩ := cells4' R4.out
    have HGc : Hid (∀ w', Below w4.heap.size w4 w' → w'.cell? ⟨w.heap.size, 0, none⟩ = some (.int .i64 u.k) ∧ w'.cell? ⟨w.heap.size, 1, none⟩ = some (.int .i64 u.n) ∧ w'.cell? ⟨w.heap.size, 2, none⟩ = some (.string u.s) ∧ w'.cell? ⟨w.heap.size, 3, none⟩ = some (.int .i64 u.a) ∧ w'.cell? ⟨w.heap.size, 4, none⟩ = some (.slice ta n cp)) := show ∀ _, _ from fun w' hb => ⟨cellB g0 w' hb, cellB g1 w' hb, cellB g2 w' hb, cellB g3 w' hb, cellB g4 w' hb⟩
    have HXc : Hid (∀ w', Below w4.heap.size w4 w' → w'.cell? ⟨w.heap.size + 1, 0, none⟩ = some (.int .i64 u'.k) ∧ w'.cell? ⟨w.heap.size + 1, 1, none⟩ = some (.int .i64 u'.n) ∧ w'.cell? ⟨w.heap.size + 1, 2, none⟩ = some (.string u'.s) ∧ w'.cell? ⟨w.heap.size + 1, 3, none⟩ = some (.int .i64 u'.a) ∧ w'.cell? ⟨w.heap.size + 1, 4, none⟩ = some (.slice ta' m cp')) := show ∀ _, _ from fun w' hb => ⟨cellB x0 w' hb, cellB x1 w' hb, cellB x2 w' hb, cellB x3 w' hb, cellB x4 w' hb⟩
    have HRc : Hid (∀ w', Below w4.heap.size w4 w' → w'.cell? ⟨rb, 0, none⟩ = some (.int .i64 u'.k) ∧ w'.cell? ⟨rb, 1, none⟩ = some (.int .i64 u'.n) ∧ w'.cell? ⟨rb, 2, none⟩ = some (.string u'.s) ∧ w'.cell? ⟨rb, 3, none⟩ = some (.int .i64 ya)) := show ∀ _, _ from fun w' hb => ⟨cellB r0 w' hb, cellB r1 w' hb, cellB r2 w' hb, cellB r3 w' hb⟩
    clear g0 g1 g2 g3 g4 x0 x1 x2 x3 x4 r0 r1 r2 r3
    refine wp_region_held_drew (S := fun x => Below w4.heap.size w4 x) (by kernel_rfl) (Below.refl _ _).drew (fun hHeld => ?_)
    refine wpAnyH_take (i := 0) (v := .pointer (some ⟨w.heap.size, 0, none⟩)) rfl (by kernel_rfl) (by kernel_rfl) (by kernel_rfl) (fun _ _ _ h => h) (Or.inl ⟨by rfl, fun w hSw => ?_⟩) hHeld ?_
    · first | rfl | go_simp
    simp only [Act.put, List.setIfInBounds_toArray, List.set_cons_zero, List.set_cons_succ, List.getElem_toArray, List.getElem_cons_zero]
    refine wpAnyH_take (i := 1) (v := .agg #[.int .i64 u.k, .int .i64 u.n, .string u.s, .int .i64 u.a]) rfl (by kernel_rfl) (by kernel_rfl) (by kernel_rfl) (fun _ _ _ h => h) (Or.inl ⟨by rfl, fun w hSw => ?_⟩) hHeld ?_
    · obtain ⟨q0, q1, q2, q3, _⟩ := HGc.out w hSw; first | rfl | go_simp
    simp only [Act.put, List.setIfInBounds_toArray, List.set_cons_zero, List.set_cons_succ, List.getElem_toArray, List.getElem_cons_zero, List.getElem_cons_succ]
    refine wpAnyH_take (i := 2) (v := .agg #[.int .i64 u'.k, .int .i64 u'.n, .string u'.s, .int .i64 ya]) rfl (by kernel_rfl) (by kernel_rfl) (by kernel_rfl) (fun _ _ _ h => h) (Or.inl ⟨by rfl, fun w hSw => ?_⟩) hHeld ?_
    · obtain ⟨q0, q1, q2, q3⟩ := HRc.out w hSw; first | rfl | go_simp
    simp only [Act.put, List.setIfInBounds_toArray, List.set_cons_zero, List.set_cons_succ, List.getElem_toArray, List.getElem_cons_zero, List.getElem_cons_succ]
    refine wpAnyH_take (i := 3) (v := .agg #[.int .i64 u.k, .int .i64 u.n, .string u.s, .int .i64 u.a, .slice ta n cp]) rfl (by kernel_rfl) (by kernel_rfl) (by kernel_rfl) (fun _ _ _ h => h) (Or.inl ⟨by rfl, fun w hSw => ?_⟩) hHeld ?_
    · obtain ⟨q0, q1, q2, q3, q4⟩ := HGc.out w hSw; first | rfl | go_simp
    simp only [Act.put, List.setIfInBounds_toArray, List.set_cons_zero, List.set_cons_succ, List.getElem_toArray, List.getElem_cons_zero, List.getElem_cons_succ]
    refine wpAnyH_take (i := 4) (v := .agg #[.int .i64 u'.k, .int .i64 u'.n, .string u'.s, .int .i64 u'.a, .slice ta' m cp']) rfl (by kernel_rfl) (by kernel_rfl) (by kernel_rfl) (fun _ _ _ h => h) (Or.inl ⟨by rfl, fun w hSw => ?_⟩) hHeld ?_
    · obtain ⟨q0, q1, q2, q3, q4⟩ := HXc.out w hSw; first | rfl | go_simp
    simp only [Act.put, List.setIfInBounds_toArray, List.set_cons_zero, List.set_cons_succ, List.getElem_toArray, List.getElem_cons_zero, List.getElem_cons_succ]
    refine wpAnyH_ready (rs := [5]) (by kernel_rfl) (by simp) ?_
    refine AllReadyH.cons rfl (fun KK hK' => ?_) AllReadyH.nil
    have hcall := hboth
    clear hboth
    go_simp
    refine hcall.mono ?_
    clear hcall
    rintro e w5 ⟨⟨oa, oc, OB, A2, C2, RB2, RO2, rfl, hT5⟩, hb5⟩
    have hs5 : Below w4.heap.size w4 w5 := grw hHeld hb5
    have HT5 : Hid _ := hT5
    clear hT5 hb5
    refine hK'.out _ _ hs5 (fun hHeld => ?_)
    clear hK'
    refine wpAnyH_ready (rs := [6]) (by kernel_rfl) (by simp) ?_
    refine AllReadyH.cons rfl (fun KK hK' => ?_) AllReadyH.nil
    have hcall := l3classes_any oa (n + m) oc OB 0 A2 _ C2 RB2 RO2 _ _ w5 HNM.out HLj HZj HGj HT5
    go_simp
    refine hcall.mono ?_
    clear hcall
    rintro e w6 ⟨⟨g, f, ls, rfl, _, hrow, hsrt, hcls⟩, hb6⟩
    have hs6 : Below w4.heap.size w4 w6 := grw hHeld hb6
    have HRw : Hid (ClsAt w6 g (n + m) f) := show ClsAt w6 g (n + m) f from fun q hq => hrow.cell hq
    have HCL : Hid (ClsAre (n + m) (jn n L L') (jn n K K') (jn n X (fun j c => sh n (X' j c))) f) := ⟨ls, hsrt, hcls⟩
    clear hb6 hrow hsrt hcls HT5 hs5
    refine hK'.out _ _ hs6 (fun hHeld => ?_)
    clear hK'
    refine wpAnyH_ready (rs := [7]) (by kernel_rfl) (by simp) ?_
    refine AllReadyH.cons rfl (fun KK hK' => ?_) AllReadyH.nil
    have hcall := HAL.out f g w6 HRw.out
    go_simp
    refine hcall.mono ?_
    clear hcall
    rintro e w7 ⟨rfl, hb7⟩
    have hs7 : Below w4.heap.size w4 w7 := grw hHeld hb7
    have HS7 : Hid (Below w4.heap.size w4 w7) := hs7
    clear hb7 hs6 HRw
    refine hK'.out _ _ hs7 (fun hHeld => ?_)
    clear hK'
    obtain ⟨bq, hbq⟩ : ∃ bq, alike f u ⟨u'.k, u'.n, u'.s, ya⟩ = bq := ⟨_, rfl⟩
    have HBQ : Hid (alike f u ⟨u'.k, u'.n, u'.s, ya⟩ = bq) := hbq
    rw [hbq]
    clear hbq
    refine wpAnyH_take (i := 8) (v := .bool bq) rfl (by kernel_rfl) (by kernel_rfl) (by kernel_rfl) (fun _ _ _ h => h) (Or.inl ⟨by rfl, fun w hSw => ?_⟩) hHeld ?_
    · first | rfl | go_simp
    simp only [Act.put, List.setIfInBounds_toArray, List.set_cons_zero, List.set_cons_succ, List.getElem_toArray, List.getElem_cons_zero, List.getElem_cons_succ]
    refine wpAnyH_done (by kernel_rfl) ?_ _
    go_wp2
    go_ret
    refine ⟨?_, grw HB4.out HS7.out⟩
    have e : alike f u (sh n u') = bq := by rw [HSH.out]; exact HBQ.out
    rw [← e]
    exact Or.inl ⟨⟨HO.out, HO'.out⟩, f, HCL.out, rfl⟩
  · have hk4 : (u'.k == 4) = false := by simp [h4]
    obtain ⟨ya, hya⟩ : ∃ ya : Int, u'.a = ya := ⟨_, rfl⟩
    have HSH : Hid (sh n u' = ⟨u'.k, u'.n, u'.s, ya⟩) := by show sh n u' = _; unfold sh; rw [if_neg h4, ← hya]
    rw [hya] at x3
    clear h4 hur hya
    obtain ⟨w4, hw4⟩ : ∃ w4, w4 = w3.alloc (.cells #[.int .i64 u'.k, .int .i64 u'.n, .string u'.s, .int .i64 ya] 29) := ⟨_, rfl⟩
    have hb4 : Below w3.heap.size w3 w4 := by rw [hw4]; exact (Below.refl _ _).alloc (Nat.le_refl _) _
    have HB4 : Hid (Below w.heap.size w w4) := grw HB3.out hb4
    have H4 : Hid (w4.heap[w.heap.size]? = some (.cells #[.int .i64 u.k, .int .i64 u.n, .string u.s, .int .i64 u.a, .slice ta n cp] 32 (0, 0))) := blkB H3.out hb4
    have H4' : Hid (w4.heap[w.heap.size + 1]? = some (.cells #[.int .i64 u'.k, .int .i64 u'.n, .string u'.s, .int .i64 u'.a, .slice ta' m cp'] 32 (0, 0))) := blkB H3'.out hb4
    obtain ⟨rb, hrb⟩ : ∃ rb, w3.heap.size = rb := ⟨_, rfl⟩
    have R4 : Hid (w4.heap[rb]? = some (.cells #[.int .i64 u'.k, .int .i64 u'.n, .string u'.s, .int .i64 ya] 29 (0, 0))) := by rw [hw4, ← hrb]; exact heap_alloc_new _ _
    rw [hrb] at hgl hgl1
    have HAL : Hid (∀ (f : Nat → Nat) (g : Nat) (w' : World), ClsAt w' g (n + m) f → Calls Try.prog 61 #[.agg #[.int .i64 u.k, .int .i64 u.n, .string u.s, .int .i64 u.a], .agg #[.int .i64 u'.k, .int .i64 u'.n, .string u'.s, .int .i64 ya], .slice (some ⟨g, 0, none⟩) (n + m) (n + m)] w' fun e w'' => e = .returned (.bool (alike f u ⟨u'.k, u'.n, u'.s, ya⟩)) ∧ Below w'.heap.size w' w'') := show ∀ _, _ from fun f g w' hC => by
      have h := l3alike_any u (sh n u') (n + m) g (n + m) f w' (isV_more HO.out.root) (sh_isV HO'.out.root) hC
      rw [HSH.out] at h
      exact h
    clear hb4 H3 H3' HB3
    go_wp2
    rw [← hw4]
    try rw [hrb]
    clear hw4 hrb g0 g1 g2 g3 g4 x0 x1 x2 x3 x4
    have HT4 : Hid (TabsAt w4 ta n TB TO A L C RB RO K X) := HT.out.below HB4.out
    have HT4' : Hid (TabsAt w4 ta' m TB' TO' A' L' C' RB' RO' K' X') := HT'.out.below HB4.out
    have hboth := l3both_any u u' ta ta' n cp TB TO m cp' TB' TO' A A' L C RB RO L' C' RB' RO' K X K' X' w4.drew HO.out.len HO'.out.len (show ∀ r, _ from fun r hr => (HO'.out.all r hr).len) (good_of HO'.out) (HT4.out.below (Below.refl _ _).drew) (HT4'.out.below (Below.refl _ _).drew)
    obtain ⟨g0, g1, g2, g3, g4, _⟩ := cells5 H4.out
    obtain ⟨x0, x1, x2, x3, x4, _⟩ := cells5 H4'.out
    obtain ⟨r0, r1, r2, r3, _⟩ := cells4' R4.out
    have HGc : Hid (∀ w', Below w4.heap.size w4 w' → w'.cell? ⟨w.heap.size, 0, none⟩ = some (.int .i64 u.k) ∧ w'.cell? ⟨w.heap.size, 1, none⟩ = some (.int .i64 u.n) ∧ w'.cell? ⟨w.heap.size, 2, none⟩ = some (.string u.s) ∧ w'.cell? ⟨w.heap.size, 3, none⟩ = some (.int .i64 u.a) ∧ w'.cell? ⟨w.heap.size, 4, none⟩ = some (.slice ta n cp)) := show ∀ _, _ from fun w' hb => ⟨cellB g0 w' hb, cellB g1 w' hb, cellB g2 w' hb, cellB g3 w' hb, cellB g4 w' hb⟩
    have HXc : Hid (∀ w', Below w4.heap.size w4 w' → w'.cell? ⟨w.heap.size + 1, 0, none⟩ = some (.int .i64 u'.k) ∧ w'.cell? ⟨w.heap.size + 1, 1, none⟩ = some (.int .i64 u'.n) ∧ w'.cell? ⟨w.heap.size + 1, 2, none⟩ = some (.string u'.s) ∧ w'.cell? ⟨w.heap.size + 1, 3, none⟩ = some (.int .i64 u'.a) ∧ w'.cell? ⟨w.heap.size + 1, 4, none⟩ = some (.slice ta' m cp')) := show ∀ _, _ from fun w' hb => ⟨cellB x0 w' hb, cellB x1 w' hb, cellB x2 w' hb, cellB x3 w' hb, cellB x4 w' hb⟩
    have HRc : Hid (∀ w', Below w4.heap.size w4 w' → w'.cell? ⟨rb, 0, none⟩ = some (.int .i64 u'.k) ∧ w'.cell? ⟨rb, 1, none⟩ = some (.int .i64 u'.n) ∧ w'.cell? ⟨rb, 2, none⟩ = some (.string u'.s) ∧ w'.cell? ⟨rb, 3, none⟩ = some (.int .i64 ya)) := show ∀ _, _ from fun w' hb => ⟨cellB r0 w' hb, cellB r1 w' hb, cellB r2 w' hb, cellB r3 w' hb⟩
    clear g0 g1 g2 g3 g4 x0 x1 x2 x3 x4 r0 r1 r2 r3
    refine wp_region_held_drew (S := fun x => Below w4.heap.size w4 x) (by kernel_rfl) (Below.refl _ _).drew (fun hHeld => ?_)
    refine wpAnyH_take (i := 0) (v := .pointer (some ⟨w.heap.size, 0, none⟩)) rfl (by kernel_rfl) (by kernel_rfl) (by kernel_rfl) (fun _ _ _ h => h) (Or.inl ⟨by rfl, fun w hSw => ?_⟩) hHeld ?_
    · first | rfl | go_simp
    simp only [Act.put, List.setIfInBounds_toArray, List.set_cons_zero, List.set_cons_succ, List.getElem_toArray, List.getElem_cons_zero]
    refine wpAnyH_take (i := 1) (v := .agg #[.int .i64 u.k, .int .i64 u.n, .string u.s, .int .i64 u.a]) rfl (by kernel_rfl) (by kernel_rfl) (by kernel_rfl) (fun _ _ _ h => h) (Or.inl ⟨by rfl, fun w hSw => ?_⟩) hHeld ?_
    · obtain ⟨q0, q1, q2, q3, _⟩ := HGc.out w hSw; first | rfl | go_simp
    simp only [Act.put, List.setIfInBounds_toArray, List.set_cons_zero, List.set_cons_succ, List.getElem_toArray, List.getElem_cons_zero, List.getElem_cons_succ]
    refine wpAnyH_take (i := 2) (v := .agg #[.int .i64 u'.k, .int .i64 u'.n, .string u'.s, .int .i64 ya]) rfl (by kernel_rfl) (by kernel_rfl) (by kernel_rfl) (fun _ _ _ h => h) (Or.inl ⟨by rfl, fun w hSw => ?_⟩) hHeld ?_
    · obtain ⟨q0, q1, q2, q3⟩ := HRc.out w hSw; first | rfl | go_simp
    simp only [Act.put, List.setIfInBounds_toArray, List.set_cons_zero, List.set_cons_succ, List.getElem_toArray, List.getElem_cons_zero, List.getElem_cons_succ]
    refine wpAnyH_take (i := 3) (v := .agg #[.int .i64 u.k, .int .i64 u.n, .string u.s, .int .i64 u.a, .slice ta n cp]) rfl (by kernel_rfl) (by kernel_rfl) (by kernel_rfl) (fun _ _ _ h => h) (Or.inl ⟨by rfl, fun w hSw => ?_⟩) hHeld ?_
    · obtain ⟨q0, q1, q2, q3, q4⟩ := HGc.out w hSw; first | rfl | go_simp
    simp only [Act.put, List.setIfInBounds_toArray, List.set_cons_zero, List.set_cons_succ, List.getElem_toArray, List.getElem_cons_zero, List.getElem_cons_succ]
    refine wpAnyH_take (i := 4) (v := .agg #[.int .i64 u'.k, .int .i64 u'.n, .string u'.s, .int .i64 u'.a, .slice ta' m cp']) rfl (by kernel_rfl) (by kernel_rfl) (by kernel_rfl) (fun _ _ _ h => h) (Or.inl ⟨by rfl, fun w hSw => ?_⟩) hHeld ?_
    · obtain ⟨q0, q1, q2, q3, q4⟩ := HXc.out w hSw; first | rfl | go_simp
    simp only [Act.put, List.setIfInBounds_toArray, List.set_cons_zero, List.set_cons_succ, List.getElem_toArray, List.getElem_cons_zero, List.getElem_cons_succ]
    refine wpAnyH_ready (rs := [5]) (by kernel_rfl) (by simp) ?_
    refine AllReadyH.cons rfl (fun KK hK' => ?_) AllReadyH.nil
    have hcall := hboth
    clear hboth
    go_simp
    refine hcall.mono ?_
    clear hcall
    rintro e w5 ⟨⟨oa, oc, OB, A2, C2, RB2, RO2, rfl, hT5⟩, hb5⟩
    have hs5 : Below w4.heap.size w4 w5 := grw hHeld hb5
    have HT5 : Hid _ := hT5
    clear hT5 hb5
    refine hK'.out _ _ hs5 (fun hHeld => ?_)
    clear hK'
    refine wpAnyH_ready (rs := [6]) (by kernel_rfl) (by simp) ?_
    refine AllReadyH.cons rfl (fun KK hK' => ?_) AllReadyH.nil
    have hcall := l3classes_any oa (n + m) oc OB 0 A2 _ C2 RB2 RO2 _ _ w5 HNM.out HLj HZj HGj HT5
    go_simp
    refine hcall.mono ?_
    clear hcall
    rintro e w6 ⟨⟨g, f, ls, rfl, _, hrow, hsrt, hcls⟩, hb6⟩
    have hs6 : Below w4.heap.size w4 w6 := grw hHeld hb6
    have HRw : Hid (ClsAt w6 g (n + m) f) := show ClsAt w6 g (n + m) f from fun q hq => hrow.cell hq
    have HCL : Hid (ClsAre (n + m) (jn n L L') (jn n K K') (jn n X (fun j c => sh n (X' j c))) f) := ⟨ls, hsrt, hcls⟩
    clear hb6 hrow hsrt hcls HT5 hs5
    refine hK'.out _ _ hs6 (fun hHeld => ?_)
    clear hK'
    refine wpAnyH_ready (rs := [7]) (by kernel_rfl) (by simp) ?_
    refine AllReadyH.cons rfl (fun KK hK' => ?_) AllReadyH.nil
    have hcall := HAL.out f g w6 HRw.out
    go_simp
    refine hcall.mono ?_
    clear hcall
    rintro e w7 ⟨rfl, hb7⟩
    have hs7 : Below w4.heap.size w4 w7 := grw hHeld hb7
    have HS7 : Hid (Below w4.heap.size w4 w7) := hs7
    clear hb7 hs6 HRw
    refine hK'.out _ _ hs7 (fun hHeld => ?_)
    clear hK'
    obtain ⟨bq, hbq⟩ : ∃ bq, alike f u ⟨u'.k, u'.n, u'.s, ya⟩ = bq := ⟨_, rfl⟩
    have HBQ : Hid (alike f u ⟨u'.k, u'.n, u'.s, ya⟩ = bq) := hbq
    rw [hbq]
    clear hbq
    refine wpAnyH_take (i := 8) (v := .bool bq) rfl (by kernel_rfl) (by kernel_rfl) (by kernel_rfl) (fun _ _ _ h => h) (Or.inl ⟨by rfl, fun w hSw => ?_⟩) hHeld ?_
    · first | rfl | go_simp
    simp only [Act.put, List.setIfInBounds_toArray, List.set_cons_zero, List.set_cons_succ, List.getElem_toArray, List.getElem_cons_zero, List.getElem_cons_succ]
    refine wpAnyH_done (by kernel_rfl) ?_ _
    go_wp2
    go_ret
    refine ⟨?_, grw HB4.out HS7.out⟩
    have e : alike f u (sh n u') = bq := by rw [HSH.out]; exact HBQ.out
    rw [← e]
    exact Or.inl ⟨⟨HO.out, HO'.out⟩, f, HCL.out, rfl⟩

end Go.Proofs.Ytcomcgjilhcimab

namespace Go.Proofs.Ytcomcgjilhcimab
open Go.RowKit Vl

set_option maxHeartbeats 4000000 in
set_option maxRecDepth 100000 in
/-- 'impl.Same'. -/
theorem implSame_any (u u' : V) (ta ta' : Option Addr) (n cp TB TO m cp' TB' TO' : Nat) (A A' : Nat → Option Addr) (L C RB RO L' C' RB' RO' : Nat → Nat) (K X K' X' : Nat → Nat → V) (w : World) (hn : n ≤ 1048576) (hm : m ≤ 1048576) (HS : Hid (Small 1048576 n L K X)) (HS' : Hid (Small 1048576 m L' K' X')) (HT : Hid (TabsAt w ta n TB TO A L C RB RO K X)) (HT' : Hid (TabsAt w ta' m TB' TO' A' L' C' RB' RO' K' X')) :
    Calls Try.prog 31 #[.agg #[.int .i64 u.k, .int .i64 u.n, .string u.s, .int .i64 u.a, .slice ta n cp], .agg #[.int .i64 u'.k, .int .i64 u'.n, .string u'.s, .int .i64 u'.a, .slice ta' m cp']] w fun e w' => SameRes e n m u u' L L' K X K' X' ∧ Below w.heap.size w w' := by
  have A3 := alloc3 w (.cells #[.int .i64 u.k, .int .i64 u.n, .string u.s, .int .i64 u.a, .slice ta n cp] 32) (.cells #[.int .i64 u'.k, .int .i64 u'.n, .string u'.s, .int .i64 u'.a, .slice ta' m cp'] 32) (.cells #[.int .i64 u.k, .int .i64 u.n, .string u.s, .int .i64 u.a, .slice ta n cp, .int .i64 u'.k, .int .i64 u'.n, .string u'.s, .int .i64 u'.a, .slice ta' m cp'] 32)
  obtain ⟨w0, hw0⟩ : ∃ w0, w0 = ((w.alloc (.cells #[.int .i64 u.k, .int .i64 u.n, .string u.s, .int .i64 u.a, .slice ta n cp] 32)).alloc (.cells #[.int .i64 u'.k, .int .i64 u'.n, .string u'.s, .int .i64 u'.a, .slice ta' m cp'] 32)).alloc (.cells #[.int .i64 u.k, .int .i64 u.n, .string u.s, .int .i64 u.a, .slice ta n cp, .int .i64 u'.k, .int .i64 u'.n, .string u'.s, .int .i64 u'.a, .slice ta' m cp'] 32) := ⟨_, rfl⟩
  rw [← hw0] at A3
  have HB0 : Hid (Below w.heap.size w w0) := A3.2.2.2.2
  have hblk := A3.2.2.1
  obtain ⟨G, HGd⟩ : ∃ G : GrS, Hid (G = ⟨two u u', two n m, two L L', two K K', two X X'⟩) := ⟨_, rfl⟩
  have HGs : Hid (GsAt w0 2 (w.heap.size + 2) G (two ta ta') (two cp cp') (two TB TB') (two TO TO') (two A A') (two C C') (two RB RB') (two RO RO')) := by
    rw [HGd.out]
    refine ⟨fun q hq => ?_, fun q hq => ?_, fun q hq => ?_, fun q hq => ?_, fun q hq => ?_, fun q hq => ?_, fun q hq => ?_⟩ <;> rcases (show q = 0 ∨ q = 1 by omega) with rfl | rfl
    iterate 10 (simp [two, World.cell?, hblk])
    · exact ⟨hn, HS.out⟩
    · exact ⟨hm, HS'.out⟩
    · exact HT.out.below HB0.out
    · exact HT'.out.below HB0.out
  have hcf := classify_any 2 (by omega) (by omega) (w.heap.size + 2) G _ _ _ _ _ _ _ _ w0 HGs
  have hoff : G.off 2 = n + m := by rw [HGd.out]; simp [GrS.off, two]
  clear A3 hblk
  go_enter Try.func31, Try.ntmps31
  go_wp2_with fail
  rw [← hw0]
  refine hcf.mono ?_
  clear hcf hw0
  rintro e w1 ⟨hcase, hb1⟩
  have HB1 : Hid (Below w.heap.size w w1) := grw HB0.out hb1
  rcases hcase with ⟨T, M, Lc, Kc, Xc, ls, f, rv, tv, cb, rfl, hd⟩ | ⟨⟨q, hq, hno⟩, rfl⟩
  · have hok0 : OkG n u L K X := by have := hd.cmb.ok 0 (by omega); rw [HGd.out] at this; exact this
    have hok1 : OkG m u' L' K' X' := by have := hd.cmb.ok 1 (by omega); rw [HGd.out] at this; exact this
    have e0 : sh (G.off 0) (G.U 0) = u := by rw [HGd.out]; exact sh_zero u
    have e1 : sh (G.off 1) (G.U 1) = sh n u' := by rw [HGd.out]; simp [GrS.off, two]
    obtain ⟨rb, rc, rfl, hr0⟩ := owns_cell hd.roots (k := 0) (y := ifv T (sh (G.off 0) (G.U 0))) (by simp)
    obtain ⟨rb', rc', e', hr1⟩ := owns_cell hd.roots (k := 1) (y := ifv T (sh (G.off 1) (G.U 1))) (by simp)
    cases e'
    obtain ⟨va, vc, rfl, _⟩ := owns_form hd.tabs
    rw [e0] at hr0
    rw [e1] at hr1
    have hN : G.off 2 ≤ 400 := by have := hok0.len; have := hok1.len; omega
    have hx : isV (G.off 2) u = true := by rw [hoff]; exact isV_more hok0.root
    have hy : isV (G.off 2) (sh n u') = true := by rw [hoff]; exact sh_isV hok1.root
    have HR : Hid (∀ b, b = alike T (fstV f u) (fstV f (sh n u')) → SameRes (.returned (.bool b)) n m u u' L L' K X K' X') := show ∀ b, _ from fun b hb => by
      subst hb
      refine Or.inl ⟨⟨hok0, hok1⟩, f, ?_, by rw [alike_fst hd.tbs.inj hd.is.low hx hy]⟩
      have h2 := hd.srt
      have h3 := hd.is
      have t0 := hd.cmb.tab 0 (by omega)
      have t1 := hd.cmb.tab 1 (by omega)
      rw [HGd.out] at t0 t1
      rw [hoff] at h2 h3
      simp only [GrS.off, two, Nat.zero_add, sh_zero, if_true, Nat.one_ne_zero, if_false] at t0 t1
      have hL : ∀ j, j < n + m → Lc j = jn n L L' j := fun j hj => by
        by_cases e : j < n
        · rw [jn_lt e]; exact (t0 j e).1
        · rw [jn_ge e]; have := (t1 (j - n) (by omega)).1; rw [show n + (j - n) = j by omega] at this; exact this
      have hK : ∀ j, j < n + m → Kc j = jn n K K' j := fun j hj => by
        by_cases e : j < n
        · rw [jn_lt e]; exact (t0 j e).2.1
        · rw [jn_ge e]; have := (t1 (j - n) (by omega)).2.1; rw [show n + (j - n) = j by omega] at this; exact this
      have hX : ∀ j, j < n + m → Xc j = jn n X (fun j c => sh n (X' j c)) j := fun j hj => by
        by_cases e : j < n
        · rw [jn_lt e]; exact funext (t0 j e).2.2
        · rw [jn_ge e]; have := funext (t1 (j - n) (by omega)).2.2; rw [show n + (j - n) = j by omega] at this; exact this
      exact ⟨ls, fun r hr => by rw [← hK r hr, ← hL r hr]; exact h2 r hr, h3.agree hL (fun j hj => by unfold sK; rw [hK j hj]) (fun j hj => by unfold sK; rw [hX j hj])⟩
    obtain ⟨w2, hw2⟩ : ∃ w2, w2 = w1.alloc (.cells #[.slice (some ⟨rb, 0, none⟩) 2 rc, .slice va (G.off 2) vc, .slice (some ⟨cb, 0, none⟩) (G.off 2) (G.off 2)] 87) := ⟨_, rfl⟩
    have hb2 : Below w1.heap.size w1 w2 := by rw [hw2]; exact (Below.refl _ _).alloc (Nat.le_refl _) _
    have HB2 : Hid (Below w.heap.size w w2) := grw HB1.out hb2
    have H2 : w2.heap[w1.heap.size]? = some (.cells #[.slice (some ⟨rb, 0, none⟩) 2 rc, .slice va (G.off 2) vc, .slice (some ⟨cb, 0, none⟩) (G.off 2) (G.off 2)] 87 (0, 0)) := by rw [hw2]; exact heap_alloc_new _ _
    obtain ⟨cc, hcc⟩ : ∃ cc, w1.heap.size = cc := ⟨_, rfl⟩
    rw [hcc] at H2
    obtain ⟨c0, c1, c2, _⟩ := three_at H2
    have HF1 : Hid (∀ w', Below w2.heap.size w2 w' → Calls Try.prog 65 #[.agg #[.slice (some ⟨rb, 0, none⟩) 2 rc, .slice va (G.off 2) vc, .slice (some ⟨cb, 0, none⟩) (G.off 2) (G.off 2)], ifv T u] w' fun e w'' => e = .returned (ifv T (fstV f u)) ∧ Below w'.heap.size w' w'') := show ∀ _, _ from fun w' hb => hd.first hN u w' hx (grw hb2 hb)
    have HF2 : Hid (∀ w', Below w2.heap.size w2 w' → Calls Try.prog 65 #[.agg #[.slice (some ⟨rb, 0, none⟩) 2 rc, .slice va (G.off 2) vc, .slice (some ⟨cb, 0, none⟩) (G.off 2) (G.off 2)], ifv T (sh n u')] w' fun e w'' => e = .returned (ifv T (fstV f (sh n u'))) ∧ Below w'.heap.size w' w'') := show ∀ _, _ from fun w' hb => hd.first hN (sh n u') w' hy (grw hb2 hb)
    have HEQ : Hid (∀ w', Below w2.heap.size w2 w' → (binOp .eql 67 (ifv T (fstV f u)) (ifv T (fstV f (sh n u')))).run Try.prog w' = .ok (.bool (alike T (fstV f u) (fstV f (sh n u')))) w') := show ∀ _, _ from fun w' hb => eql_ifv T (fstV_isV hd.is.low hx) (fstV_isV hd.is.low hy) w' (fun j hj => by
      obtain ⟨ord, a1, _⟩ := hd.tbs.tab j hj
      unfold TabB at a1
      exact ⟨_, _, ((grw hb2 hb).block _ (blk_lt a1)).trans a1⟩)
    have r0 : w2.cell? ⟨rb, 0, none⟩ = some (ifv T u) := (hb2.cell (World.block_lt_of_cell? _ _ hr0)).trans hr0
    have r1 : w2.cell? ⟨rb, 1, none⟩ = some (ifv T (sh n u')) := (hb2.cell (World.block_lt_of_cell? _ _ hr1)).trans hr1
    obtain ⟨bq, hbq⟩ : ∃ bq, alike T (fstV f u) (fstV f (sh n u')) = bq := ⟨_, rfl⟩
    rw [hbq] at HEQ HR
    obtain ⟨ut, uy, hxv⟩ := ifv_form T u
    obtain ⟨vt, vy, hyv⟩ := ifv_form T (sh n u')
    obtain ⟨pt, py, hpv⟩ := ifv_form T (fstV f u)
    obtain ⟨st, sy, hsv⟩ := ifv_form T (fstV f (sh n u'))
    rw [hxv] at r0 HF1
    rw [hyv] at r1 HF2
    rw [hpv] at HF1 HEQ
    rw [hsv] at HF2 HEQ
    replace c0 := cellB c0
    replace c1 := cellB c1
    replace c2 := cellB c2
    replace r0 := cellB r0
    replace r1 := cellB r1
    obtain ⟨NN, hNN⟩ : ∃ NN, G.off 2 = NN := ⟨_, rfl⟩
    rw [hNN] at c1 c2 HF1 HF2 hw2 ⊢
    clear hd hr0 hr1 e0 e1 hN hx hy hb2 hxv hyv hpv hsv hbq H2 hok0 hok1 hoff hNN HGs HGd hb1
    go_wp2
    try rw [hcc] at hw2
    try rw [hcc]
    rw [← hw2]
    clear hw2 hcc
    refine wp_region_held_drew (S := fun x => Below w2.heap.size w2 x) (by kernel_rfl) (Below.refl _ _).drew (fun hHeld => ?_)
    refine wpAnyH_take (i := 0) (v := .bool true) rfl (by kernel_rfl) (by kernel_rfl) (by kernel_rfl) (fun _ _ _ h => h) (Or.inl ⟨by rfl, fun w hSw => ?_⟩) hHeld ?_
    · first | rfl | go_simp
    simp only [Act.put, List.setIfInBounds_toArray, List.set_cons_zero, List.set_cons_succ, List.getElem_toArray, List.getElem_cons_zero]
    refine wpAnyH_take (i := 1) (v := .bool true) rfl (by kernel_rfl) (by kernel_rfl) (by kernel_rfl) (fun _ _ _ h => h) (Or.inl ⟨by rfl, fun w hSw => ?_⟩) hHeld ?_
    · first | rfl | go_simp
    simp only [Act.put, List.setIfInBounds_toArray, List.set_cons_zero, List.set_cons_succ, List.getElem_toArray, List.getElem_cons_zero, List.getElem_cons_succ]
    refine wpAnyH_take (i := 2) (v := .agg #[.slice (some ⟨rb, 0, none⟩) 2 rc, .slice va NN vc, .slice (some ⟨cb, 0, none⟩) NN NN]) rfl (by kernel_rfl) (by kernel_rfl) (by kernel_rfl) (fun _ _ _ h => h) (Or.inl ⟨by rfl, fun w hSw => ?_⟩) hHeld ?_
    · have q0 := c0 w hSw; have q1 := c1 w hSw; have q2 := c2 w hSw; first | rfl | go_simp
    simp only [Act.put, List.setIfInBounds_toArray, List.set_cons_zero, List.set_cons_succ, List.getElem_toArray, List.getElem_cons_zero, List.getElem_cons_succ]
    refine wpAnyH_take (i := 3) (v := .pointer (some ⟨cc, 0, none⟩)) rfl (by kernel_rfl) (by kernel_rfl) (by kernel_rfl) (fun _ _ _ h => h) (Or.inl ⟨by rfl, fun w hSw => ?_⟩) hHeld ?_
    · first | rfl | go_simp
    simp only [Act.put, List.setIfInBounds_toArray, List.set_cons_zero, List.set_cons_succ, List.getElem_toArray, List.getElem_cons_zero, List.getElem_cons_succ]
    refine wpAnyH_take (i := 4) (v := .slice (some ⟨rb, 0, none⟩) 2 rc) rfl (by kernel_rfl) (by kernel_rfl) (by kernel_rfl) (fun _ _ _ h => h) (Or.inl ⟨by rfl, fun w hSw => ?_⟩) hHeld ?_
    · have q0 := c0 w hSw; first | rfl | go_simp
    simp only [Act.put, List.setIfInBounds_toArray, List.set_cons_zero, List.set_cons_succ, List.getElem_toArray, List.getElem_cons_zero, List.getElem_cons_succ]
    refine wpAnyH_take (i := 5) (v := .pointer (some ⟨rb, 0, none⟩)) rfl (by kernel_rfl) (by kernel_rfl) (by kernel_rfl) (fun _ _ _ h => h) (Or.inl ⟨by rfl, fun w hSw => ?_⟩) hHeld ?_
    · first | rfl | go_simp
    simp only [Act.put, List.setIfInBounds_toArray, List.set_cons_zero, List.set_cons_succ, List.getElem_toArray, List.getElem_cons_zero, List.getElem_cons_succ]
    refine wpAnyH_take (i := 6) (v := .iface ut uy) rfl (by kernel_rfl) (by kernel_rfl) (by kernel_rfl) (fun _ _ _ h => h) (Or.inl ⟨by rfl, fun w hSw => ?_⟩) hHeld ?_
    · have q0 := r0 w hSw; first | rfl | go_simp
    simp only [Act.put, List.setIfInBounds_toArray, List.set_cons_zero, List.set_cons_succ, List.getElem_toArray, List.getElem_cons_zero, List.getElem_cons_succ]
    refine wpAnyH_take (i := 8) (v := .agg #[.slice (some ⟨rb, 0, none⟩) 2 rc, .slice va NN vc, .slice (some ⟨cb, 0, none⟩) NN NN]) rfl (by kernel_rfl) (by kernel_rfl) (by kernel_rfl) (fun _ _ _ h => h) (Or.inl ⟨by rfl, fun w hSw => ?_⟩) hHeld ?_
    · have q0 := c0 w hSw; have q1 := c1 w hSw; have q2 := c2 w hSw; first | rfl | go_simp
    simp only [Act.put, List.setIfInBounds_toArray, List.set_cons_zero, List.set_cons_succ, List.getElem_toArray, List.getElem_cons_zero, List.getElem_cons_succ]
    refine wpAnyH_take (i := 9) (v := .pointer (some ⟨cc, 0, none⟩)) rfl (by kernel_rfl) (by kernel_rfl) (by kernel_rfl) (fun _ _ _ h => h) (Or.inl ⟨by rfl, fun w hSw => ?_⟩) hHeld ?_
    · first | rfl | go_simp
    simp only [Act.put, List.setIfInBounds_toArray, List.set_cons_zero, List.set_cons_succ, List.getElem_toArray, List.getElem_cons_zero, List.getElem_cons_succ]
    refine wpAnyH_take (i := 10) (v := .slice (some ⟨rb, 0, none⟩) 2 rc) rfl (by kernel_rfl) (by kernel_rfl) (by kernel_rfl) (fun _ _ _ h => h) (Or.inl ⟨by rfl, fun w hSw => ?_⟩) hHeld ?_
    · have q0 := c0 w hSw; first | rfl | go_simp
    simp only [Act.put, List.setIfInBounds_toArray, List.set_cons_zero, List.set_cons_succ, List.getElem_toArray, List.getElem_cons_zero, List.getElem_cons_succ]
    refine wpAnyH_take (i := 11) (v := .pointer (some ⟨rb, 1, none⟩)) rfl (by kernel_rfl) (by kernel_rfl) (by kernel_rfl) (fun _ _ _ h => h) (Or.inl ⟨by rfl, fun w hSw => ?_⟩) hHeld ?_
    · first | rfl | go_simp
    simp only [Act.put, List.setIfInBounds_toArray, List.set_cons_zero, List.set_cons_succ, List.getElem_toArray, List.getElem_cons_zero, List.getElem_cons_succ]
    refine wpAnyH_take (i := 12) (v := .iface vt vy) rfl (by kernel_rfl) (by kernel_rfl) (by kernel_rfl) (fun _ _ _ h => h) (Or.inl ⟨by rfl, fun w hSw => ?_⟩) hHeld ?_
    · have q0 := r1 w hSw; first | rfl | go_simp
    simp only [Act.put, List.setIfInBounds_toArray, List.set_cons_zero, List.set_cons_succ, List.getElem_toArray, List.getElem_cons_zero, List.getElem_cons_succ]
    refine wpAnyH_ready (rs := [7]) (by kernel_rfl) (by simp) ?_
    refine AllReadyH.cons rfl (fun K' hK' => ?_) AllReadyH.nil
    have hcall := HF1.out _ hHeld
    go_simp
    refine hcall.mono ?_
    clear hcall
    rintro e w3 ⟨rfl, hb3⟩
    have hs3 : Below w2.heap.size w2 w3 := grw hHeld hb3
    refine hK'.out _ _ hs3 (fun hHeld => ?_)
    clear hK' hb3
    refine wpAnyH_ready (rs := [13]) (by kernel_rfl) (by simp) ?_
    refine AllReadyH.cons rfl (fun K' hK' => ?_) AllReadyH.nil
    have hcall := HF2.out _ hHeld
    go_simp
    refine hcall.mono ?_
    clear hcall
    rintro e w4 ⟨rfl, hb4⟩
    have hs4 : Below w2.heap.size w2 w4 := grw hHeld hb4
    refine hK'.out _ _ hs4 (fun hHeld => ?_)
    clear hK' hb4
    refine wpAnyH_take (i := 14) (v := .bool bq) rfl (by kernel_rfl) (by kernel_rfl) (by kernel_rfl) (fun _ _ _ h => h) (Or.inl ⟨by rfl, fun w hSw => ?_⟩) hHeld ?_
    · have q0 := HEQ.out w hSw; first | rfl | go_simp
    simp only [Act.put, List.setIfInBounds_toArray, List.set_cons_zero, List.set_cons_succ, List.getElem_toArray, List.getElem_cons_zero, List.getElem_cons_succ]
    refine wpAnyH_take (i := 15) (v := .bool bq) rfl (by kernel_rfl) (by kernel_rfl) (by kernel_rfl) (fun _ _ _ h => h) (Or.inl ⟨by rfl, fun w hSw => ?_⟩) hHeld ?_
    · first | rfl | go_simp
    simp only [Act.put, List.setIfInBounds_toArray, List.set_cons_zero, List.set_cons_succ, List.getElem_toArray, List.getElem_cons_zero, List.getElem_cons_succ]
    refine wpAnyH_take (i := 16) (v := .bool bq) rfl (by kernel_rfl) (by kernel_rfl) (by kernel_rfl) (fun _ _ _ h => h) (Or.inl ⟨by rfl, fun w hSw => ?_⟩) hHeld ?_
    · first | rfl | go_simp
    simp only [Act.put, List.setIfInBounds_toArray, List.set_cons_zero, List.set_cons_succ, List.getElem_toArray, List.getElem_cons_zero, List.getElem_cons_succ]
    refine wpAnyH_done (by kernel_rfl) ?_ _
    go_wp2
    go_ret
    exact ⟨HR.out _ rfl, grw HB2.out hs4⟩
  · have HN : Hid (¬ (OkG n u L K X ∧ OkG m u' L' K' X')) := by
      rw [HGd.out] at hno
      rcases (show q = 0 ∨ q = 1 by omega) with rfl | rfl
      · exact (show ¬ (OkG n u L K X ∧ OkG m u' L' K' X') from fun h => hno h.1)
      · exact (show ¬ (OkG n u L K X ∧ OkG m u' L' K' X') from fun h => hno h.2)
    obtain ⟨w2, hw2⟩ : ∃ w2, w2 = w1.alloc (.cells #[.slice none 0 0, .slice none 0 0, .slice none 0 0] 87) := ⟨_, rfl⟩
    have hb2 : Below w1.heap.size w1 w2 := by rw [hw2]; exact (Below.refl _ _).alloc (Nat.le_refl _) _
    have HB2 : Hid (Below w.heap.size w w2) := grw HB1.out hb2
    go_wp2
    rw [← hw2]
    go_quiet (fail)
    go_wp2
    go_ret
    exact ⟨Or.inr ⟨HN.out, rfl⟩, below_drewN HB2.out _⟩

end Go.Proofs.Ytcomcgjilhcimab
