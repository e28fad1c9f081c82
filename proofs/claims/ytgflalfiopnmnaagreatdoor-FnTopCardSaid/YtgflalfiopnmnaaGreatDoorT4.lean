import Derived.Test.YtgflalfiopnmnaaGreatDoorT0
import Derived.Test.YtgflalfiopnmnaaGreatDoorT3
namespace Go.Proofs.YtgflalfiopnmnaaGreatDoor
open Go.RowKit Vl

set_option maxHeartbeats 1000000 in
set_option maxRecDepth 100000 in
theorem val_old (u : V) (ta : Option Addr) (n cp : Nat) (w0 : World) (WB WH base : Nat) (S : List Nat) (v : V) (w : World) (ord : Value) (hv : isV n v = true) (hin : v.k = 4 → v.a.toNat ∈ S) (HW : Hid (SpW w0 w WB WH base u ta n cp ord S S)) :
    Calls Tryz.prog 61 #[.pointer (some ⟨WB, 0, none⟩), .agg #[.int .i64 v.k, .int .i64 v.n, .string v.s, .int .i64 v.a]] w fun e w' => e = .returned (vAgg (renum S v)) ∧ Below w.heap.size w w' := by
  by_cases h4 : v.k = 4
  · have hm := hin h4
    obtain ⟨a0, a1⟩ := isV_tab hv h4
    obtain ⟨r, hr⟩ : ∃ r : Nat, v.a = r := ⟨v.a.toNat, by omega⟩
    have hrn : r < n := by omega
    rw [hr] at hm
    have hm : r ∈ S := hm
    obtain ⟨x4, x5, x6, x7⟩ := cells7 HW.out.blk
    have xr := HW.out.row.cell hrn
    have l1 : WB < w.heap.size := blk_lt HW.out.blk
    have l2 : WH < w.heap.size := HW.out.row.lt
    have hbd : (0 : Int) ≤ (r : Int) ∧ (r : Int) < (n : Int) := by omega
    have hne : (v.k != 4) = false := by simpa using h4
    rw [whereIs_in hm] at xr
    have hR : Hid (renum S v = ⟨v.k, v.n, v.s, (S.idxOf r : Nat)⟩) := by
      show renum S v = _
      unfold renum
      rw [if_pos h4, hr]
      rfl
    obtain ⟨q, hq⟩ : ∃ q : Nat, S.idxOf r = q := ⟨_, rfl⟩
    rw [hq] at xr hR
    rw [hR.out]
    have hge : ¬ ((q : Int) < 0) := by omega
    rw [hr]
    clear h4 hr x4 x6 hin
    go_enter Tryz.func61, Tryz.ntmps61
    go_wp2
    go_region
    all_goals (try go_wp2)
    go_region
    all_goals (try go_wp2)
    have hb : Below w.heap.size w ((w.alloc (.cells #[.int .i64 v.k, .int .i64 v.n, .string v.s, .int .i64 (q : Nat)] 24)).alloc (.cells #[.int .i64 v.k, .int .i64 v.n, .string v.s, .int .i64 (q : Nat)] 24)) := ((Below.refl _ _).alloc (Nat.le_refl _) _).alloc (by simp) _
    refine bodyPost_ret (v := vAgg ⟨v.k, v.n, v.s, (q : Nat)⟩) (by simp [results, Tryz.results61, go_sem]) rfl ⟨rfl, hb.drew.drew⟩
  · have hne : (v.k != 4) = true := by simpa using h4
    have hR : Hid (renum S v = v) := by show renum S v = v; unfold renum; rw [if_neg h4]
    rw [hR.out]
    go_enter Tryz.func61, Tryz.ntmps61
    go_wp2
    have hb : Below w.heap.size w ((w.alloc (.cells #[.int .i64 v.k, .int .i64 v.n, .string v.s, .int .i64 v.a] 24)).alloc (.cells #[.int .i64 v.k, .int .i64 v.n, .string v.s, .int .i64 v.a] 24)) := ((Below.refl _ _).alloc (Nat.le_refl _) _).alloc (by simp) _
    refine bodyPost_ret (v := vAgg v) (by simp [results, Tryz.results61, go_sem]) rfl ⟨rfl, hb⟩

def cL (S : List Nat) (L : Nat → Nat) (i : Nat) : Nat := L (S.getD i 0)
def cK (S : List Nat) (K : Nat → Nat → V) (i : Nat) : Nat → V := K (S.getD i 0)
def cX (S : List Nat) (X : Nat → Nat → V) (i c : Nat) : V := renum S (X (S.getD i 0) c)

def OutB (w : World) (B : Nat) (v : V) (tv : Value) : Prop := w.heap[B]? = some (.cells #[.int .i64 v.k, .int .i64 v.n, .string v.s, .int .i64 v.a, tv] 27 (0, 0))

theorem SpW.start {w0 w : World} {WB WH base n cp : Nat} {u : V} {ta : Option Addr} (h : w.heap[WB]? = some (.cells #[.int .i64 u.k, .int .i64 u.n, .string u.s, .int .i64 u.a, .slice ta n cp, .slice (some ⟨WH, 0, none⟩) n n, .slice none 0 0] 145 (0, 0))) (hr : w.rowIs WH 3 n (fun _ => .int .i64 (-1))) (hb : Below w0.heap.size w0 w) : SpW w0 w WB WH base u ta n cp (.slice none 0 0) [] [] :=
  ⟨h, hr.congr (fun i _ => by simp [whereIs]), World.ownsRow_nil _ _ _ _, hb⟩

structure CanW (w wr : World) (u : V) (ta : Option Addr) (n cp : Nat) : Prop where
  graph : OutB wr w.heap.size u (.slice ta n cp)
  res : OutB wr (w.heap.size + 1) zeroV (.slice none 0 0)
  bel : Below w.heap.size w wr
theorem CanW.only {w wr wr' : World} {u : V} {ta : Option Addr} {n cp : Nat} {P : Nat → Prop} (h : CanW w wr u ta n cp) (ho : Only P wr wr') (hP : ∀ k, P k → w.heap.size + 2 ≤ k) : CanW w wr' u ta n cp :=
  ⟨(ho.block _ (blk_lt h.graph) (fun x => by have := hP _ x; omega)).trans h.graph, (ho.block _ (blk_lt h.res) (fun x => by have := hP _ x; omega)).trans h.res, h.bel.trans (ho.toBelow (fun k x => by have := hP k x; omega) h.bel.size)⟩
theorem CanW.below {w wr wr' : World} {u : V} {ta : Option Addr} {n cp : Nat} (h : CanW w wr u ta n cp) (hb : Below wr.heap.size wr wr') : CanW w wr' u ta n cp := h.only (Only.below (P := fun _ => False) hb) (fun _ h => h.elim)

theorem set4_only {w : World} {B i j k l : Nat} {a' b' c' d' : Value} : Only (fun k => k = B) w ((((w.setCell ⟨B, i, none⟩ a').setCell ⟨B, j, none⟩ b').setCell ⟨B, k, none⟩ c').setCell ⟨B, l, none⟩ d') :=
  ((((Only.refl (fun k => k = B) w).set (p := ⟨B, i, none⟩) rfl a').set (p := ⟨B, j, none⟩) rfl b').set (p := ⟨B, k, none⟩) rfl c').set (p := ⟨B, l, none⟩) rfl d'

theorem alloc4 (w : World) (a b c d : Obj) : ((((w.alloc a).alloc b).alloc c).alloc d).heap[w.heap.size]? = some a ∧ ((((w.alloc a).alloc b).alloc c).alloc d).heap[w.heap.size + 1]? = some b ∧ ((((w.alloc a).alloc b).alloc c).alloc d).heap[w.heap.size + 2]? = some c ∧ ((((w.alloc a).alloc b).alloc c).alloc d).heap[w.heap.size + 3]? = some d ∧ ((((w.alloc a).alloc b).alloc c).alloc d).heap.size = w.heap.size + 4 ∧ Below w.heap.size w ((((w.alloc a).alloc b).alloc c).alloc d) := by
  obtain ⟨h0, h1, h2, hs, hb⟩ := alloc3 w a b c
  refine ⟨?_, ?_, ?_, ?_, ?_, hb.alloc hb.size _⟩
  · rw [Below.heap_alloc _ _ _ (by omega)]; exact h0
  · rw [Below.heap_alloc _ _ _ (by omega)]; exact h1
  · rw [Below.heap_alloc _ _ _ (by omega)]; exact h2
  · have := heap_alloc_new (((w.alloc a).alloc b).alloc c) d
    rw [hs] at this
    exact this
  · simp

set_option maxHeartbeats 2000000 in
set_option maxRecDepth 100000 in
theorem l2canon_any (u : V) (ta : Option Addr) (n cp TB TO : Nat) (A : Nat → Option Addr) (L C RB RO : Nat → Nat) (K X : Nat → Nat → V) (w : World) (HG : Hid (OkG n u L K X)) (HT : Hid (TabsAt w ta n TB TO A L C RB RO K X)) (S : List Nat) (HS : Hid (order n u L X = S)) :
    Calls Tryz.prog 31 #[.agg #[.int .i64 u.k, .int .i64 u.n, .string u.s, .int .i64 u.a, .slice ta n cp]] w fun e w' => (∃ (tv : Value) (PV : Nat → Value) (base : Nat), w.heap.size ≤ base ∧ e = .returned (.agg #[.int .i64 (renum S u).k, .int .i64 (renum S u).n, .string (renum S u).s, .int .i64 (renum S u).a, tv]) ∧ OTab w' base tv S.length PV (cL S L) (cK S K) (cX S X)) ∧ Below w.heap.size w w' := by
  have hn : n ≤ 200 := HG.out.len
  have hmk := run_make_n 93 3 _ 1 8 Tryz.underlying93 Tryz.infoN n (by omega) (by omega)
  go_enter Tryz.func31, Tryz.ntmps31
  go_wp2
  go_region
  all_goals (try go_wp2)
  clear hmk
  have A4 : Hid _ := alloc4 w (.cells #[.int .i64 u.k, .int .i64 u.n, .string u.s, .int .i64 u.a, .slice ta n cp] 27) (.cells #[.int .i64 0, .int .i64 0, .string ⟨#[]⟩, .int .i64 0, .slice none 0 0] 27) (.cells (madeCells #[.int .i64 0] n) 3) (.cells #[.int .i64 u.k, .int .i64 u.n, .string u.s, .int .i64 u.a, .slice ta n cp, .slice (some ⟨w.heap.size + 1 + 1, 0, none⟩) n n, .slice none 0 0] 145)
  obtain ⟨w1, hw1⟩ : ∃ w1, w1 = ((((w.alloc (.cells #[.int .i64 u.k, .int .i64 u.n, .string u.s, .int .i64 u.a, .slice ta n cp] 27)).alloc (.cells #[.int .i64 0, .int .i64 0, .string ⟨#[]⟩, .int .i64 0, .slice none 0 0] 27)).alloc (.cells (madeCells #[.int .i64 0] n) 3)).alloc (.cells #[.int .i64 u.k, .int .i64 u.n, .string u.s, .int .i64 u.a, .slice ta n cp, .slice (some ⟨w.heap.size + 1 + 1, 0, none⟩) n n, .slice none 0 0] 145)).drew := ⟨_, rfl⟩
  rw [← hw1]
  have HC1 : Hid (CanW w w1 u ta n cp) := by rw [hw1]; exact ⟨A4.out.1, A4.out.2.1, A4.out.2.2.2.2.2.drew⟩
  have HR1 : Hid (w1.rowIs (w.heap.size + 2) 3 n (fun _ => .int .i64 0)) := by
    rw [hw1]
    have := row_made ((w.alloc (.cells #[.int .i64 u.k, .int .i64 u.n, .string u.s, .int .i64 u.a, .slice ta n cp] 27)).alloc (.cells #[.int .i64 0, .int .i64 0, .string ⟨#[]⟩, .int .i64 0, .slice none 0 0] 27)) #[.int .i64 0] n 3
    rw [show ((w.alloc (.cells #[.int .i64 u.k, .int .i64 u.n, .string u.s, .int .i64 u.a, .slice ta n cp] 27)).alloc (.cells #[.int .i64 0, .int .i64 0, .string ⟨#[]⟩, .int .i64 0, .slice none 0 0] 27)).heap.size = w.heap.size + 2 by simp] at this
    exact ((this.alloc _).of_block rfl).congr (fun i _ => by simp [Nat.mod_one])
  have HB1 : Hid (w1.heap[w.heap.size + 3]? = some (.cells #[.int .i64 u.k, .int .i64 u.n, .string u.s, .int .i64 u.a, .slice ta n cp, .slice (some ⟨w.heap.size + 2, 0, none⟩) n n, .slice none 0 0] 145 (0, 0))) := by rw [hw1]; exact A4.out.2.2.2.1
  have Z1 : Hid (w1.heap.size = w.heap.size + 4) := by rw [hw1]; exact A4.out.2.2.2.2.1
  clear hw1 A4
  go_loopw [23] (fun ii wr => ∃ c : Nat, c ≤ n ∧ ii = .int .i64 c ∧ Hid (wr.rowIs (w.heap.size + 2) 3 n (fun i => if i < c then .int .i64 (-1) else .int .i64 0)) ∧ Hid (Only (fun k => k = w.heap.size + 2) w1 wr) ∧ Hid (wr.heap.size = w.heap.size + 4)) (fun ii _ => n - (intOf ii).toNat)
  case atStart => exact ⟨0, Nat.zero_le _, rfl, HR1.out.congr (fun i _ => by rw [if_neg (by omega)]), Only.refl _ _, Z1⟩
  case round =>
    obtain ⟨c, hc, rfl, HR, HO, HZ⟩ := hrel
    have HBr : Hid (wr.heap[w.heap.size + 3]? = some (.cells #[.int .i64 u.k, .int .i64 u.n, .string u.s, .int .i64 u.a, .slice ta n cp, .slice (some ⟨w.heap.size + 2, 0, none⟩) n n, .slice none 0 0] 145 (0, 0))) := (HO.out.block _ (blk_lt HB1.out) (by omega)).trans HB1.out
    obtain ⟨x4, x5, x6, x7⟩ := cells7 HBr.out
    by_cases hlt : c < n
    · have rc := HR.out.cell hlt
      have rz := HR.out.frozen c
      rw [if_neg (by omega)] at rc
      go_wp2
      go_roundw
      case rel =>
        refine ⟨c + 1, by omega, by go_num, (HR.out.set c _).congr (fun i _ => ?_), HO.out.set rfl _, show _ = _ by rw [← HZ.out]; simp [World.setCell]⟩
        by_cases e : i = c
        · subst e; rw [if_pos rfl, if_pos (by omega)]
        · rw [if_neg e]
          by_cases h' : i < c
          · rw [if_pos h', if_pos (by omega)]
          · rw [if_neg h', if_neg (by omega)]
      case measure => simp [intOf]; omega
    · obtain rfl : c = n := by omega
      clear HR1
      have hsr := HO.out.size
      have hz1 := Z1.out
      have HSB : Hid (SpB w (w.heap.size + 3) (w.heap.size + 2) (w.heap.size + 5)) := show SpB _ _ _ _ from ⟨by omega, by omega, by omega, by omega, by omega⟩
      have HCr : Hid (CanW w wr u ta c cp) := HC1.out.only HO.out (fun k hk => by omega)
      have HWr : Hid (SpW w wr (w.heap.size + 3) (w.heap.size + 2) (w.heap.size + 5) u ta c cp (.slice none 0 0) [] []) := SpW.start HBr.out (HR.out.congr (fun i hi => by rw [if_pos hi])) HCr.out.bel
      have hszr : wr.heap.size = w.heap.size + 4 := HZ.out
      obtain ⟨w2, hw2⟩ : ∃ w2, w2 = wr.alloc (.cells #[.int .i64 0, .int .i64 0, .string ⟨#[]⟩, .int .i64 0, .slice none 0 0] 27) := ⟨_, rfl⟩
      have hb2 : Below wr.heap.size wr w2 := by rw [hw2]; exact (Below.refl _ _).alloc (Nat.le_refl _) _
      have HC2 : Hid (CanW w w2 u ta c cp) := HCr.out.below hb2
      have HW2 : Hid (SpW w w2 (w.heap.size + 3) (w.heap.size + 2) (w.heap.size + 5) u ta c cp (.slice none 0 0) [] []) := HWr.out.below hb2
      have HO2 : Hid (OutB w2 (w.heap.size + 4) zeroV (.slice none 0 0)) := by rw [hw2, ← hszr]; exact heap_alloc_new _ _
      have hs2 : w2.heap.size = w.heap.size + 5 := by rw [hw2]; simp [hszr]
      have hcall := val_any u ta c cp TB TO A L C RB RO K X w (w.heap.size + 3) (w.heap.size + 2) (w.heap.size + 5) hn (show ∀ r, _ from fun r hr => (HG.out.all r hr).len) (good_of HG.out) HT HSB (c + 1) [] u w2 (.slice none 0 0) (Fit.nil c) HG.out.root (by simp) (by omega) HW2
      rw [show met L X (c + 1) [] u = S from HS.out] at hcall
      obtain ⟨g0, g1, g2, g3, g4, _⟩ := cells5 HCr.out.graph
      have lb : w.heap.size < wr.heap.size := by omega
      clear hb2 hsr HWr HCr HO HR HBr x4 x5 x6 x7
      go_wp2_with fail
      rw [← hw2]
      refine hcall.mono ?_
      clear hcall hw2 g0 g1 g2 g3 g4 lb
      rintro e w3 ⟨rfl, ord, hW3, hF3⟩
      have hs3 := hF3.only.size
      have HC3 : Hid (CanW w w3 u ta c cp) := HC2.out.only hF3.only (fun k hk => by rcases hk with rfl | rfl | h; omega; omega; simp [Value.ownBlock] at h)
      have HO3 : Hid (OutB w3 (w.heap.size + 4) zeroV (.slice none 0 0)) := hF3.blk HO2.out (by omega) (by omega) (by simp [Value.ownBlock])
      have HW3 : Hid (SpW w w3 (w.heap.size + 3) (w.heap.size + 2) (w.heap.size + 5) u ta c cp ord S S) := hW3
      clear hW3 hF3 HC2 HO2 HW2 HC1 HB1 HZ
      obtain ⟨ru, hru⟩ : ∃ ru, renum S u = ru := ⟨_, rfl⟩
      have HRU : Hid (renum S u = ru) := hru
      rw [hru]
      clear hru
      obtain ⟨w4, hw4⟩ : ∃ w4, w4 = (((w3.setCell ⟨w.heap.size + 4, 0, none⟩ (.int .i64 ru.k)).setCell ⟨w.heap.size + 4, 1, none⟩ (.int .i64 ru.n)).setCell ⟨w.heap.size + 4, 2, none⟩ (.string ru.s)).setCell ⟨w.heap.size + 4, 3, none⟩ (.int .i64 ru.a) := ⟨_, rfl⟩
      have ho4 : Only (fun k => k = w.heap.size + 4) w3 w4 := by rw [hw4]; exact set4_only
      have HO4 : Hid (OutB w4 (w.heap.size + 4) ru (.slice none 0 0)) := by rw [hw4]; exact put5lo HO3.out _ _ _ _
      have HC4 : Hid (CanW w w4 u ta c cp) := HC3.out.only ho4 (fun k hk => by omega)
      have HW4 : Hid (SpW w w4 (w.heap.size + 3) (w.heap.size + 2) (w.heap.size + 5) u ta c cp ord S S) := HW3.out.far ho4 (by omega) (by omega) (fun k hk hP => by obtain ⟨_, _, _, h⟩ := owns_form HW3.out.own; have := (h k hk).1; omega) (fun k hP => by omega)
      obtain ⟨c0, c1, c2, c3, c4, z0⟩ := cells5 HO3.out
      unfold vAgg
      go_wp2
      rw [← hw4]
      clear c0 c1 c2 c3 c4 z0 hw4 ho4 HO3 HW3 HC3
      have hw4s : w.heap.size + 5 ≤ w4.heap.size := by have := blk_lt HO4.out; omega
      obtain ⟨hSf, hScl, hSr⟩ := order_all HG.out
      rw [HS.out] at hSf hScl hSr
      have HSf : Hid (Fit c S) := hSf
      have HCl : Hid (∀ r ∈ S, ∀ j, j < L r → (X r j).k = 4 → (X r j).a.toNat ∈ S) := hScl
      have hSl : S.length ≤ 200 := Nat.le_trans hSf.len hn
      clear hSf hScl hSr hs2 hszr hs3
      obtain ⟨oa, oc, rfl, hok⟩ := owns_form HW4.out.own
      have HOK : Hid (∀ k, (Value.slice oa S.length oc).ownBlock = some k → w.heap.size + 5 ≤ k ∧ k < w4.heap.size) := hok
      clear hok
      go_loopw [6] (fun ii wr => ∃ (i : Nat) (tv : Value) (PV : Nat → Value), i ≤ S.length ∧ ii = .int .i64 i ∧ Hid (OutB wr (w.heap.size + 4) ru tv) ∧ Hid (OTab wr w4.heap.size tv i PV (cL S L) (cK S K) (cX S X)) ∧ Hid (Only (fun k => k = w.heap.size + 4) w4 wr)) (fun ii _ => S.length - (intOf ii).toNat)
      case atStart => exact ⟨0, _, fun _ => .nilIface, Nat.zero_le _, rfl, HO4, OTab.nil _ _ _ _ _ _, Only.refl _ _⟩
      case round =>
        obtain ⟨i, tv, PV, hi, rfl, HOr, HTr, HLr⟩ := hrel
        have HWr : Hid (SpW w wr (w.heap.size + 3) (w.heap.size + 2) (w.heap.size + 5) u ta c cp (.slice oa S.length oc) S S) := HW4.out.far HLr.out (by omega) (by omega) (fun k hk hP => by have := (HOK.out k hk).1; omega) (fun k hP => by omega)
        have HCr : Hid (CanW w wr u ta c cp) := HC4.out.only HLr.out (fun k hk => by omega)
        obtain ⟨x4, x5, x6, x7⟩ := cells7 HWr.out.blk
        have hsr := HLr.out.size
        by_cases hlt : i < S.length
        · obtain ⟨s, hs⟩ : ∃ s, S[i]? = some s := ⟨S[i], by simp [hlt]⟩
          have hsS : s ∈ S := List.mem_of_getElem? hs
          have hsn : s < c := HSf.out.lt s hsS
          have HD : Hid (S.getD i 0 = s) := by show _ = _; simp [hs]
          obtain ⟨og, oc', he, hog⟩ := owns_cell HWr.out.own (k := i) (y := .int .i64 (s : Nat)) (by simp [natCells, hs])
          cases he
          obtain ⟨g0, g1, g2, g3, g4, _⟩ := cells5 HCr.out.graph
          have hta := HT.out.top (by omega)
          subst hta
          have HTw : Hid (TabsAt wr (some ⟨TB, TO, none⟩) c TB TO A L C RB RO K X) := HT.out.below HCr.out.bel
          have t0 := HTw.out.tab s hsn
          obtain ⟨pa, hpa⟩ : ∃ a, A s = a := ⟨_, rfl⟩
          rw [hpa] at t0
          have HP : Hid (PairsAt w pa (L s) (RB s) (RO s) (K s) (X s)) := hpa ▸ HT.out.row s hsn
          have l1 : w.heap.size < wr.heap.size := by omega
          have l2 : w.heap.size + 1 + 1 + 1 < wr.heap.size := by omega
          have l3 : og < wr.heap.size := by have := World.block_lt_of_cell? _ _ hog; simpa using this
          have l4 : TB < wr.heap.size := by have := World.block_lt_of_cell? _ _ t0; simpa using this
          have hbi : (0 : Int) ≤ (i : Int) ∧ (i : Int) < (S.length : Int) := by omega
          have hbs : (0 : Int) ≤ (s : Int) ∧ (s : Int) < (c : Int) := by omega
          have hLs : L s ≤ 100 := (HG.out.all s hsn).len
          have x6' : wr.cell? ⟨w.heap.size + 1 + 1 + 1, 6, none⟩ = some (.slice (some ⟨og, 0, none⟩) S.length oc) := x6
          go_wp2
          go_region
          all_goals (try go_wp2)
          clear x4 x5 x6 x6' x7 hog g0 g1 g2 g3 g4 t0 HTw hpa l3 l4 hbi hbs hs
          obtain ⟨tb, htb⟩ : ∃ tb, wr.heap.size = tb := ⟨_, rfl⟩
          obtain ⟨wt, hwt⟩ : ∃ wt, wt = (wr.alloc (.cells #[.slice none 0 0] 37)).drew := ⟨_, rfl⟩
          rw [← hwt, htb]
          have hbt : Below wr.heap.size wr wt := by rw [hwt]; exact ((Below.refl _ _).alloc (Nat.le_refl _) _).drew
          have TB0 : Hid (wt.heap[tb]? = some (.cells #[.slice none 0 0] 37 (0, 0))) := by rw [hwt, ← htb]; exact heap_alloc_new wr (.cells #[.slice none 0 0] 37)
          have hst : wt.heap.size = tb + 1 := by rw [hwt, ← htb]; exact (by simp : (wr.alloc (.cells #[.slice none 0 0] 37)).heap.size = wr.heap.size + 1)
          have HWt : Hid (SpW w wt (w.heap.size + 3) (w.heap.size + 2) (w.heap.size + 5) u (some ⟨TB, TO, none⟩) c cp (.slice (some ⟨og, 0, none⟩) S.length oc) S S) := HWr.out.below hbt
          have HTt : Hid (OTab wt w4.heap.size tv i PV (cL S L) (cK S K) (cX S X)) := HTr.out.below hbt
          have HOt : Hid (OutB wt (w.heap.size + 4) ru tv) := blkB HOr.out hbt
          have HLt : Hid (Only (fun k => k = w.heap.size + 4) w4 wt) := HLr.out.trans (Only.below hbt)
          have HN1 : Hid (∀ g, tv.ownBlock = some g → g < tb) := show ∀ g, _ from fun g hg => by obtain ⟨_, _, _, h⟩ := owns_form HTr.out.own; have := (h g hg).2; omega
          have HN2 : Hid (∀ j, j < i → ∀ g, (PV j).ownBlock = some g → g < tb) := show ∀ j, _ from fun j hj g hg => by obtain ⟨_, _, _, h⟩ := owns_form (HTr.out.rows j hj); have := (h g hg).2; omega
          clear hwt hbt HWr HTr HOr HLr HCr
          have hogb : og < w4.heap.size := (HOK.out og rfl).2
          obtain ⟨ip, hpi, hp0, hp1, hp2⟩ := info_parts Tryz.info39
          obtain ⟨it, hti, ht0, ht1, ht2⟩ := info_parts Tryz.info37
          go_loopw [60] (fun jj wq => ∃ (j : Nat) (pv : Value), j ≤ L s ∧ jj = .int .i64 j ∧ Hid (wq.heap[tb]? = some (.cells #[pv] 37 (0, 0))) ∧ Hid (wq.ownsRow (tb + 1) 39 8 pv j (pairCells (K s) (fun c => renum S (X s c)) j)) ∧ Hid (Only (fun k => k = tb) wt wq)) (fun jj _ => L s - (intOf jj).toNat)
          case atStart => exact ⟨0, _, Nat.zero_le _, rfl, TB0, World.ownsRow_nil _ _ _ _, Only.refl _ _⟩
          case round =>
            obtain ⟨j, pv, hj, rfl, HTb, HOw, HLq⟩ := hrel
            have hsq := HLq.out.size
            have HWq : Hid (SpW w wr (w.heap.size + 3) (w.heap.size + 2) (w.heap.size + 5) u (some ⟨TB, TO, none⟩) c cp (.slice (some ⟨og, 0, none⟩) S.length oc) S S) := HWt.out.far HLq.out (by omega) (by omega) (fun k hk hP => by have := (HOK.out k hk).2; omega) (fun k hP => by omega)
            by_cases hjl : j < L s
            · obtain rfl := HP.out.top (by omega)
              obtain ⟨⟨k0, k1, k2, k3⟩, ⟨v0, v1, v2, v3⟩⟩ := (HP.out.below HWq.out.bel).cells hjl
              obtain ⟨pa', pc', rfl, _⟩ := owns_form HOw.out
              obtain ⟨wp, hwp⟩ : ∃ wp, wp = wr.alloc (.cells #[.int .i64 (K s j).k, .int .i64 (K s j).n, .string (K s j).s, .int .i64 (K s j).a, .int .i64 (X s j).k, .int .i64 (X s j).n, .string (X s j).s, .int .i64 (X s j).a] 39) := ⟨_, rfl⟩
              have hbp : Below wr.heap.size wr wp := by rw [hwp]; exact (Below.refl _ _).alloc (Nat.le_refl _) _
              have HPb : Hid (wp.heap[wr.heap.size]? = some (.cells #[.int .i64 (K s j).k, .int .i64 (K s j).n, .string (K s j).s, .int .i64 (K s j).a, .int .i64 (X s j).k, .int .i64 (X s j).n, .string (X s j).s, .int .i64 (X s j).a] 39 (0, 0))) := by rw [hwp]; exact heap_alloc_new _ _
              have hcall := val_old u (some ⟨TB, TO, none⟩) c cp w (w.heap.size + 3) (w.heap.size + 2) (w.heap.size + 5) S (X s j) wp _ (good_of HG.out s hsn j hjl) (HCl.out s hsS j hjl) (HWq.out.below hbp)
              obtain ⟨y, HY⟩ : ∃ y, Hid (renum S (X s j) = y) := ⟨_, rfl⟩
              rw [HY.out] at hcall
              have HTp : Hid (wp.heap[tb]? = some (.cells #[.slice pa' j pc'] 37 (0, 0))) := blkB HTb.out hbp
              have HLp : Hid (Only (fun k => k = tb) wt wp) := HLq.out.trans (Only.below hbp)
              have HOp : Hid (wp.ownsRow (tb + 1) 39 8 (.slice pa' j pc') j (pairCells (K s) (fun c => renum S (X s c)) j)) := (Only.below (P := fun _ => False) hbp).owns HOw.out (fun _ _ _ h => h)
              clear hbp HTb HLq HOw HWq
              obtain ⟨qb, hqb⟩ : ∃ qb, wr.heap.size = qb := ⟨_, rfl⟩
              go_wp2_with fail
              rw [← hwp]
              refine hcall.mono ?_
              clear hcall hwp k0 k1 k2 k3 v0 v1 v2 v3
              rintro e w5 ⟨rfl, hb5⟩
              have HP5 : Hid (w5.heap[wr.heap.size]? = some (.cells #[.int .i64 (K s j).k, .int .i64 (K s j).n, .string (K s j).s, .int .i64 (K s j).a, .int .i64 (X s j).k, .int .i64 (X s j).n, .string (X s j).s, .int .i64 (X s j).a] 39 (0, 0))) := blkB HPb.out hb5
              have HT5 : Hid (w5.heap[tb]? = some (.cells #[.slice pa' j pc'] 37 (0, 0))) := blkB HTp.out hb5
              have HL5 : Hid (Only (fun k => k = tb) wt w5) := HLp.out.trans (Only.below hb5)
              have HO5 : Hid (w5.ownsRow (tb + 1) 39 8 (.slice pa' j pc') j (pairCells (K s) (fun c => renum S (X s c)) j)) := (Only.below (P := fun _ => False) hb5).owns HOp.out (fun _ _ _ h => h)
              clear hb5 HPb HTp HLp HOp
              obtain ⟨y0, y1⟩ := one_at HT5.out
              have hkc : w5.cell? ⟨wr.heap.size, 0, none⟩ = some (.int .i64 (K s j).k) ∧ w5.cell? ⟨wr.heap.size, 1, none⟩ = some (.int .i64 (K s j).n) ∧ w5.cell? ⟨wr.heap.size, 2, none⟩ = some (.string (K s j).s) ∧ w5.cell? ⟨wr.heap.size, 3, none⟩ = some (.int .i64 (K s j).a) := by
                refine ⟨?_, ?_, ?_, ?_⟩ <;> simp [World.cell?, HP5.out]
              obtain ⟨k0, k1, k2, k3⟩ := hkc
              have l5 : wr.heap.size < w5.heap.size := blk_lt HP5.out
              have l6 : tb < w5.heap.size := blk_lt HT5.out
              rw [hqb] at k0 k1 k2 k3 l5
              unfold vAgg
              go_wp2_with (at_builtin; refine wpList_append_lies _ (by rfl) (.tmp 69) (.tmp 74) 35 (by rfl) (tb + 1) 39 ip (.agg #[.int .i64 0, .int .i64 0, .string ⟨#[]⟩, .int .i64 0, .int .i64 0, .int .i64 0, .string ⟨#[]⟩, .int .i64 0]) 8 80 Tryz.underlying35 hpi hp0 hp1 hp2 (by rfl) (by omega) (.slice pa' j pc') j (pairCells (K s) (fun c => renum S (X s c)) j) (by rfl) ((HO5.out.alloc _).alloc _) ⟨w5.heap.size + 1, 0, none⟩ 1 1 [.int .i64 (K s j).k, .int .i64 (K s j).n, .string (K s j).s, .int .i64 (K s j).a, .int .i64 y.k, .int .i64 y.n, .string y.s, .int .i64 y.a] (by rfl) (by rfl) ?c1 ?c2 (by omega) ?c3 ?c4 ?c5 (w5.heap.size + 2) ?c6 ?_)
              case c1 => exact World.news_of_block (alloc2 w5 _ _).2.1
              case c2 => intro u hu; simp at hu; rcases hu with rfl | rfl | rfl | rfl | rfl | rfl | rfl | rfl <;> rfl
              case c3 => unfold maxLen; omega
              case c4 => omega
              case c5 => simp; omega
              case c6 => simp
              intro g cap w6 hown6 hgrow6 hat6 hlt6
              have hb6 : Below (tb + 1) ((w5.alloc (.cells #[.int .i64 y.k, .int .i64 y.n, .string y.s, .int .i64 y.a] 24)).alloc (.cells #[.int .i64 (K s j).k, .int .i64 (K s j).n, .string (K s j).s, .int .i64 (K s j).a, .int .i64 y.k, .int .i64 y.n, .string y.s, .int .i64 y.a] 39)) w6 := below_grown ((HO5.out.alloc _).alloc _) hgrow6 (by simp; omega)
              have hba : Below w5.heap.size w5 ((w5.alloc (.cells #[.int .i64 y.k, .int .i64 y.n, .string y.s, .int .i64 y.a] 24)).alloc (.cells #[.int .i64 (K s j).k, .int .i64 (K s j).n, .string (K s j).s, .int .i64 (K s j).a, .int .i64 y.k, .int .i64 y.n, .string y.s, .int .i64 y.a] 39)) := (alloc2 w5 _ _).2.2.2
              have HT6 : Hid (w6.heap[tb]? = some (.cells #[.slice pa' j pc'] 37 (0, 0))) := (hb6.block tb (by omega)).trans (blkB HT5.out hba)
              have HL6 : Hid (Only (fun k => k = tb) wt w6) := (HL5.out.trans (Only.below hba)).thenBelow hb6 (by omega)
              have HO6 : Hid (w6.ownsRow (tb + 1) 39 8 (.slice (some ⟨g, 0, none⟩) (j + 1) cap) (j + 1) (pairCells (K s) (fun c => renum S (X s c)) (j + 1))) := by
                show World.ownsRow _ _ _ _ _ _ _
                rw [pairCells_succ]
                simp only [HY.out]
                exact hown6
              obtain ⟨_, _, hf6, hg6⟩ := owns_form HO6.out
              have hgt := (hg6 g rfl).1
              clear hown6 hgrow6 hat6 hlt6 hb6 hba HT5 HL5 HO5 HP5 y0 y1 k0 k1 k2 k3 hf6 hg6
              obtain ⟨y0, y1⟩ := one_at HT6.out
              go_wp2
              go_roundw
              case rel =>
                refine ⟨j + 1, .slice (some ⟨g, 0, none⟩) (j + 1) cap, by omega, by go_num, ?_, ?_, HL6.out.set rfl _⟩
                · have h6 := HT6.out
                  show _ = _
                  simp [World.setCell, Array.getElem?_modify, h6]
                · exact ownsRow_setCell_other (a := ⟨tb, 0, none⟩) HO6.out (by simp only [Value.ownBlock, ne_eq, Option.some.injEq]; omega) _
              case measure => simp [intOf]; omega
            · obtain rfl : j = L s := by omega
              obtain ⟨pa', pc', rfl, hpo⟩ := owns_form HOw.out
              obtain ⟨ta', tc', rfl, _⟩ := owns_form HTt.out.own
              have HTq : Hid (OTab wr w4.heap.size (.slice ta' i tc') i PV (cL S L) (cK S K) (cX S X)) := HTt.out.onlyB HLq.out (fun g hg e => by have := HN1.out g hg; omega) (fun j hj g hg e => by have := HN2.out j hj g hg; omega)
              have HOq : Hid (OutB wr (w.heap.size + 4) ru (.slice ta' i tc')) := (HLq.out.block _ (blk_lt HOt.out) (by omega)).trans HOt.out
              have HLw : Hid (Only (fun k => k = w.heap.size + 4) w4 wr) := HLt.out.thenBelow (HLq.out.toBelow (base := w4.heap.size) (fun k hk => by omega) (by omega)) (Nat.le_refl _)
              obtain ⟨c0, c1, c2, c3, c4, z0⟩ := cells5 HOq.out
              obtain ⟨y0, y1⟩ := one_at HTb.out
              have l6 : tb < wr.heap.size := blk_lt HTb.out
              have l7 : w.heap.size + 4 < wr.heap.size := blk_lt HOq.out
              go_wp2_with (at_builtin; refine wpList_append_lies _ (by rfl) (.tmp 79) (.tmp 81) 25 (by rfl) w4.heap.size 37 it (.agg #[.slice none 0 0]) 1 24 Tryz.underlying25 hti ht0 ht1 ht2 (by rfl) (by omega) (.slice ta' i tc') i ((List.range i).map PV) (by rfl) (HTq.out.own.alloc _) ⟨wr.heap.size, 0, none⟩ 1 1 [.slice pa' (L s) pc'] (by rfl) (by rfl) ?c1 ?c2 (by omega) ?c3 ?c4 ?c5 (wr.heap.size + 1) ?c6 ?_)
              case c1 => exact World.news_of_block (heap_alloc_new wr _)
              case c2 => intro u hu; simp at hu; subst hu; rfl
              case c3 => unfold maxLen; omega
              case c4 => omega
              case c5 => simp; omega
              case c6 => simp
              intro g cap w7 hown7 hgrow7 hat7 hlt7
              obtain ⟨hT7, hB7⟩ := HTq.out.more (owns_mono HOw.out (by omega)) (fun j hj g hg e => by have := HN2.out j hj g hg; have := (hpo g e).1; omega) _ (by omega) hown7 hgrow7
              have HT7 : Hid (OTab w7 w4.heap.size (.slice (some ⟨g, 0, none⟩) (i + 1) cap) (i + 1) (fun j => if j = i then .slice pa' (L s) pc' else PV j) (cL S L) (cK S K) (cX S X)) := hT7.congr (fun j hj => by
                  by_cases e : j = i
                  · subst e; simp only [if_true, cL]; rw [HD.out]
                  · simp only [e, if_false]) (fun j hj c' hc' => by
                  by_cases e : j = i
                  · subst e
                    show (if j = j then K s else cK S K j) c' = cK S K j c' ∧ (if j = j then (fun c => renum S (X s c)) else cX S X j) c' = cX S X j c'
                    rw [if_pos rfl, if_pos rfl]
                    unfold cK cX
                    rw [HD.out]
                    exact ⟨rfl, rfl⟩
                  · show (if j = i then K s else cK S K j) c' = cK S K j c' ∧ (if j = i then (fun c => renum S (X s c)) else cX S X j) c' = cX S X j c'
                    rw [if_neg e, if_neg e]
                    exact ⟨rfl, rfl⟩)
              have HO7 : Hid (OutB w7 (w.heap.size + 4) ru (.slice ta' i tc')) := (hB7.block _ (by omega)).trans HOq.out
              have HL7 : Hid (Only (fun k => k = w.heap.size + 4) w4 w7) := HLw.out.thenBelow hB7 (Nat.le_refl _)
              clear hT7 hB7 hown7 hgrow7 hat7 hlt7 HTq HOq HLw c0 c1 c2 c3 c4 z0 y0 y1 HTb HOw HLq hpo
              obtain ⟨c0, c1, c2, c3, c4, z0⟩ := cells5 HO7.out
              go_wp2
              go_roundw
              case rel =>
                refine ⟨i + 1, .slice (some ⟨g, 0, none⟩) (i + 1) cap, _, by omega, by go_num, put5hi HO7.out _, HT7.out.only ((Only.refl (fun k => k = w.heap.size + 4) w7).set (p := ⟨w.heap.size + 4, 4, none⟩) rfl _) (fun k hk e => by omega), HL7.out.set rfl _⟩
              case measure => simp [intOf]; omega
        · obtain rfl : i = S.length := by omega
          obtain ⟨ta', tc', rfl, _⟩ := owns_form HTr.out.own
          have x6' : wr.cell? ⟨w.heap.size + 1 + 1 + 1, 6, none⟩ = some (.slice oa S.length oc) := x6
          obtain ⟨c0, c1, c2, c3, c4, z0⟩ := cells5 HOr.out
          obtain ⟨r0, r1, r2, r3, r4, r5⟩ := cells5 HCr.out.res
          simp only [zeroV] at r0 r1 r2 r3
          go_wp2
          have F := put5hi (put5lo HCr.out.res (.int .i64 ru.k) (.int .i64 ru.n) (.string ru.s) (.int .i64 ru.a)) (.slice ta' S.length tc')
          obtain ⟨wf, hwf⟩ : ∃ wf, wf = ((((wr.setCell ⟨w.heap.size + 1, 0, none⟩ (.int .i64 ru.k)).setCell ⟨w.heap.size + 1, 1, none⟩ (.int .i64 ru.n)).setCell ⟨w.heap.size + 1, 2, none⟩ (.string ru.s)).setCell ⟨w.heap.size + 1, 3, none⟩ (.int .i64 ru.a)).setCell ⟨w.heap.size + 1, 4, none⟩ (.slice ta' S.length tc') := ⟨_, rfl⟩
          have ho : Only (fun k => k = w.heap.size + 1) wr wf := by rw [hwf]; exact set4_only.set (p := ⟨w.heap.size + 1, 4, none⟩) rfl _
          rw [← hwf] at F ⊢
          clear hwf
          obtain ⟨q0, q1, q2, q3, q4, _⟩ := cells5 F
          refine bodyPost_ret (v := .agg #[.int .i64 ru.k, .int .i64 ru.n, .string ru.s, .int .i64 ru.a, .slice ta' S.length tc']) (by simp [results, Tryz.results31, go_sem, q0, q1, q2, q3, q4]) rfl ⟨⟨_, PV, w4.heap.size, by omega, by rw [HRU.out], HTr.out.only ho (fun k hk e => by omega)⟩, HCr.out.bel.trans (ho.toBelow (fun k hk => by omega) (by omega))⟩

end Go.Proofs.YtgflalfiopnmnaaGreatDoor

namespace Go.Proofs.YtgflalfiopnmnaaGreatDoor
open Go.RowKit Vl

def CanonIs (w w' : World) (e : Ending) (n : Nat) (u : V) (L : Nat → Nat) (K X : Nat → Nat → V) : Prop :=
  (OkG n u L K X ∧ ∃ (tv : Value) (PV : Nat → Value) (base : Nat), w.heap.size ≤ base ∧ e = .returned (.agg #[.int .i64 (renum (order n u L X) u).k, .int .i64 (renum (order n u L X) u).n, .string (renum (order n u L X) u).s, .int .i64 (renum (order n u L X) u).a, tv]) ∧ OTab w' base tv (order n u L X).length PV (cL (order n u L X) L) (cK (order n u L X) K) (cX (order n u L X) X)) ∨
  (¬ OkG n u L K X ∧ e = .returned (.agg #[.int .i64 0, .int .i64 0, .string ⟨#[]⟩, .int .i64 0, .slice none 0 0]))

end Go.Proofs.YtgflalfiopnmnaaGreatDoor

namespace Go.Proofs.YtgflalfiopnmnaaGreatDoor
open Go.RowKit Vl

theorem seen_keyed : Keyed 139 107 167 ptr IsB (fun a b => a == b) (.agg #[]) where
  und := Tryz.underlying139
  eq := fun u v w hu hv => eq_ptr u v w hu hv 9999
  chk := fun em v w => by kernel_rfl
  now := ⟨_, Tryz.underlying107, fun u v => rfl⟩
  zero := fun w => by kernel_rfl

end Go.Proofs.YtgflalfiopnmnaaGreatDoor



namespace Go.Proofs.YtgflalfiopnmnaaGreatDoor
open Go.RowKit Vl

set_option maxHeartbeats 2000000 in
set_option maxRecDepth 100000 in
theorem pairs_any (n : Nat) (T M : Nat → Nat) (at_ : Nat → Int) (L : Nat → Nat) (K X : Nat → Nat → V) (r : Nat) (w : World) (hr : r < n) (hL : L r ≤ 100) (HG : Hid (Good n L X)) (HT : Hid (Tbs w n T M at_ L K X)) :
    Calls Tryz.prog 60 #[.pointer (some ⟨T r, 0, none⟩)] w fun e w' => (∃ pv, e = .returned pv ∧ w'.ownsRow w.heap.size 39 8 pv (L r) (pairCells (K r) (fun c => atV at_ (X r c)) (L r))) ∧ Below w.heap.size w w' := by
  obtain ⟨ord, hTb, hOr⟩ := HT.out.tab r hr
  obtain ⟨l, hM, hfind⟩ := HT.out.map r hr
  obtain ⟨hform, hVals⟩ := owns_keys hOr
  have HTb : Hid (TabB w (T r) (M r) (at_ r) ord) := hTb
  have HM : Hid (MapIs w (M r) l) := hM
  have HF : Hid (∀ c, c < L r → findV (K r c) l = some (ifv T (X r c))) := hfind
  obtain ⟨ka, hka⟩ : ∃ ka, slA ord = ka := ⟨_, rfl⟩
  obtain ⟨kb, hkb⟩ : ∃ kb, slB ord = kb := ⟨_, rfl⟩
  obtain ⟨kc, hkc⟩ : ∃ kc, slC ord = kc := ⟨_, rfl⟩
  rw [hka, hkc] at hform
  rw [hka, hkb] at hVals
  have HV : Hid (ValsAt w ka (L r) kb 0 (K r)) := hVals
  rw [hform] at HTb
  clear hTb hM hfind hVals hOr hform hka hkb hkc
  obtain ⟨ip, hpi, hp0, hp1, hp2⟩ := info_parts Tryz.info39
  obtain ⟨t0, t1, t2, _⟩ := HTb.out.cells
  go_enter Tryz.func60, Tryz.ntmps60
  go_wp2
  clear t0 t1 t2
  go_loopw [3, 11] (fun pv ii wr => ∃ c : Nat, c ≤ L r ∧ ii = .int .i64 c ∧ Hid (wr.ownsRow w.heap.size 39 8 pv c (pairCells (K r) (fun c => atV at_ (X r c)) c)) ∧ Hid (Below w.heap.size w wr)) (fun _ ii _ => L r - (intOf ii).toNat)
  case atStart => exact ⟨0, Nat.zero_le _, rfl, World.ownsRow_nil _ _ _ _, Below.refl _ _⟩
  case round =>
    obtain ⟨c, hc, rfl, HO, HB⟩ := hrel
    obtain ⟨pa, pc, rfl, hpk⟩ := owns_form HO.out
    have HPK : Hid (∀ k, (Value.slice pa c pc).ownBlock = some k → w.heap.size ≤ k ∧ k < wr.heap.size) := hpk
    clear hpk
    by_cases hlt : c < L r
    · obtain rfl := HV.out.top (by omega)
      obtain ⟨k0, k1, k2, k3⟩ := (HV.out.below HB.out).cells hlt
      simp only [Nat.zero_add] at k0 k1 k2 k3
      obtain ⟨kk, HKK⟩ : ∃ kk, Hid (K r c = kk) := ⟨_, rfl⟩
      rw [HKK.out] at k0 k1 k2 k3
      go_wp2
      obtain ⟨wk, hwk⟩ : ∃ wk, wk = wr.alloc (.cells #[.int .i64 kk.k, .int .i64 kk.n, .string kk.s, .int .i64 kk.a] 24) := ⟨_, rfl⟩
      have HBk : Hid (Below wr.heap.size wr wk) := by rw [hwk]; exact (Below.refl _ _).alloc (Nat.le_refl _) _
      have HKb : Hid (ValB wk wr.heap.size kk) := by rw [hwk]; exact heap_alloc_new _ _
      rw [← hwk]
      have hszk : wk.heap.size = wr.heap.size + 1 := by rw [hwk]; simp
      obtain ⟨qb, hqb⟩ : ∃ qb, wr.heap.size = qb := ⟨_, rfl⟩
      have hqw : w.heap.size ≤ qb := by rw [← hqb]; exact HB.out.size
      rw [hqb] at HKb ⊢
      clear hwk k0 k1 k2 k3
      have HBw : Hid (Below w.heap.size w wk) := HB.out.trans (HBk.out.mono HB.out.size)
      have HOk : Hid (wk.ownsRow w.heap.size 39 8 (.slice pa c pc) c (pairCells (K r) (fun c => atV at_ (X r c)) c)) := (Only.below (P := fun _ => False) HBk.out).owns HO.out (fun _ _ _ h => h)
      clear HBk HO HB
      have hiv := HG.out r hr c hlt
      obtain ⟨xt, xy, F, hty, hmeth, hcf, hcall⟩ := as_at hiv T at_
      obtain ⟨y, HY⟩ : ∃ y, Hid (atV at_ (X r c) = y) := ⟨_, rfl⟩
      rw [HY.out] at hcall
      have hfc := HF.out c hlt
      rw [hty, HKK.out] at hfc
      have hS : ∀ w' : World, Below w.heap.size w w' → w'.cell? ⟨T r, 1, none⟩ = some (.map (some (M r))) ∧ (Instr.lookup 119 (.map (some (M r))) (.agg #[.int .i64 kk.k, .int .i64 kk.n, .string kk.s, .int .i64 kk.a]) false).run Tryz.prog w' = .ok (.iface xt xy) w' ∧ (∀ j, j < n → w'.cell? ⟨T j, 0, none⟩ = some (.int .i64 (at_ j))) := fun w' hb => by
        refine ⟨(hb.cell (p := ⟨T r, 1, none⟩) (HT.out.lt hr)).trans HTb.out.cells.2.1, ?_, fun j hj => (hb.cell (p := ⟨T j, 0, none⟩) (HT.out.lt hj)).trans (HT.out.at0 j hj)⟩
        have := ((HM.out.same (hb.block _ HM.out.lt)).lookup kk).2
        rw [hfc] at this
        exact this
      have HS : Hid _ := hS
      clear hS hfc hty
      have hnb : qb < wk.heap.size := by omega
      refine wp_region_held_drew (S := fun w' => Below w.heap.size w w' ∧ ValB w' qb kk) (by kernel_rfl) ⟨HBw.out.drew, HKb.out⟩ (fun hHeld => ?_)
      refine wpT (i := 0) (v := .slice pa c pc) rfl (fun w hSw => ?_) hHeld ?_
      · first | rfl | go_simp
      simp only [Act.put, pz]
      refine wpT (i := 1) (v := .agg #[.int .i64 kk.k, .int .i64 kk.n, .string kk.s, .int .i64 kk.a]) rfl (fun w hSw => ?_) hHeld ?_
      · obtain ⟨s0, s1, s2, s3, _⟩ := cells4 hSw.2
        first | rfl | go_simp
      simp only [Act.put, pz]
      refine wpT (i := 2) (v := .pointer (some ⟨T r, 0, none⟩)) rfl (fun w hSw => ?_) hHeld ?_
      · first | rfl | go_simp
      simp only [Act.put, pz]
      refine wpT (i := 3) (v := .pointer (some ⟨T r, 0, none⟩)) rfl (fun w hSw => ?_) hHeld ?_
      · first | rfl | go_simp
      simp only [Act.put, pz]
      refine wpT (i := 4) (v := .pointer (some ⟨T r, 1, none⟩)) rfl (fun w hSw => ?_) hHeld ?_
      · first | rfl | go_simp
      simp only [Act.put, pz]
      refine wpT (i := 5) (v := .map (some (M r))) rfl (fun w hSw => ?_) hHeld ?_
      · have s1 := (HS.out w hSw.1).1
        first | rfl | go_simp
      simp only [Act.put, pz]
      refine wpT (i := 6) (v := .agg #[.int .i64 kk.k, .int .i64 kk.n, .string kk.s, .int .i64 kk.a]) rfl (fun w hSw => ?_) hHeld ?_
      · obtain ⟨s0, s1, s2, s3, _⟩ := cells4 hSw.2
        first | rfl | go_simp
      simp only [Act.put, pz]
      refine wpT (i := 7) (v := .iface xt xy) rfl (fun w hSw => ?_) hHeld ?_
      · have s1 := (HS.out w hSw.1).2.1
        first | rfl | go_simp
      simp only [Act.put, pz]
      refine wpAnyH_ready (rs := [8]) (by kernel_rfl) (by simp) ?_
      refine AllReadyH.cons rfl (fun K' hK' => ?_) AllReadyH.nil
      have hcl := hcall wk.drew (HS.out _ HBw.out.drew).2.2
      clear hcall
      go_simp
      refine hcl.mono ?_
      clear hcl
      rintro e w5 ⟨rfl, hb5⟩
      have HB5 : Hid (Below w.heap.size w w5) := HBw.out.drew.trans (hb5.mono HBw.out.size)
      have HK5 : Hid (ValB w5 qb kk) := (show ValB wk.drew qb kk from HKb.out).below hb5
      have HO5 : Hid (w5.ownsRow w.heap.size 39 8 (.slice pa c pc) c (pairCells (K r) (fun c => atV at_ (X r c)) c)) := (Only.below (P := fun _ => False) hb5).owns (a := wk.drew) HOk.out (fun _ _ _ h => h)
      refine hK'.out _ _ ⟨HB5.out, HK5.out⟩ (fun hHeld => ?_)
      clear hK' hb5
      refine wpT (i := 9) (v := .agg #[.int .i64 kk.k, .int .i64 kk.n, .string kk.s, .int .i64 kk.a, .int .i64 y.k, .int .i64 y.n, .string y.s, .int .i64 y.a]) rfl (fun w hSw => ?_) hHeld ?_
      · first | rfl | go_simp
      simp only [Act.put, pz]
      refine wpAnyH_ready (rs := [10]) (by kernel_rfl) (by simp) ?_
      refine AllReadyH.cons rfl (fun K' hK' => ?_) AllReadyH.nil
      go_simp
      have hb6 : Below w5.heap.size w5 (w5.alloc (.cells #[.int .i64 kk.k, .int .i64 kk.n, .string kk.s, .int .i64 kk.a, .int .i64 y.k, .int .i64 y.n, .string y.s, .int .i64 y.a] 39)) := (Below.refl _ _).alloc (Nat.le_refl _) _
      refine hK'.out _ _ ⟨HB5.out.trans (hb6.mono HB5.out.size), HK5.out.below hb6⟩ (fun hHeld => ?_)
      clear hK'
      have l5 : qb < w5.heap.size := blk_lt HK5.out
      have hs5 := HB5.out.size
      refine wpAnyH_ready (rs := [11]) (by kernel_rfl) (by simp) ?_
      refine AllReadyH.cons rfl (fun K' hK' => ?_) AllReadyH.nil
      refine step_append_lies _ (by rfl) (.tmp 15) (.tmp 25) 35 (by rfl) w.heap.size 39 ip (.agg #[.int .i64 0, .int .i64 0, .string ⟨#[]⟩, .int .i64 0, .int .i64 0, .int .i64 0, .string ⟨#[]⟩, .int .i64 0]) 8 80 Tryz.underlying35 hpi hp0 hp1 hp2 (by rfl) (by omega) (.slice pa c pc) c (pairCells (K r) (fun c => atV at_ (X r c)) c) (by rfl) (HO5.out.alloc _) ⟨w5.heap.size, 0, none⟩ 1 1 [.int .i64 kk.k, .int .i64 kk.n, .string kk.s, .int .i64 kk.a, .int .i64 y.k, .int .i64 y.n, .string y.s, .int .i64 y.a] (by rfl) (by rfl) (World.news_of_block (heap_alloc_new w5 _)) (by intro u hu; simp at hu; rcases hu with rfl | rfl | rfl | rfl | rfl | rfl | rfl | rfl <;> rfl) (by omega) (by unfold maxLen; omega) (by omega) (by simp; omega) (w5.heap.size + 1) (by simp) ?_
      intro g cap w6 hown6 hgrow6 hat6 hlt6
      have hbel6 : Below w.heap.size (w5.alloc (.cells #[.int .i64 kk.k, .int .i64 kk.n, .string kk.s, .int .i64 kk.a, .int .i64 y.k, .int .i64 y.n, .string y.s, .int .i64 y.a] 39)) w6 := below_grown (HO5.out.alloc _) hgrow6 (by simp; omega)
      have HB6 : Hid (Below w.heap.size w w6) := (HB5.out.trans (hb6.mono HB5.out.size)).trans hbel6
      have HK6 : Hid (ValB w6 qb kk) := (hgrow6.block qb (by simp; omega) (fun e => by have := (HPK.out _ e.symm).2; omega)).trans (HK5.out.below hb6)
      have HO6 : Hid (w6.ownsRow w.heap.size 39 8 (.slice (some ⟨g, 0, none⟩) (c + 1) cap) (c + 1) (pairCells (K r) (fun c => atV at_ (X r c)) (c + 1))) := by
        show World.ownsRow _ _ _ _ _ _ _
        rw [pairCells_succ]
        simp only [HY.out, HKK.out]
        exact hown6
      refine hK'.out _ _ ⟨HB6.out, HK6.out⟩ (fun hHeld => ?_)
      clear hK' hown6 hgrow6 hat6 hlt6 hb6 hbel6 HB5 HK5 HO5
      simp only [Act.put, pz]
      refine wpAnyH_ready (rs := [12]) (by kernel_rfl) (by simp) ?_
      refine AllReadyH.cons rfl (fun K' hK' => ?_) AllReadyH.nil
      go_simp
      refine hK'.out _ _ ⟨HB6.out, HK6.out⟩ (fun hHeld => ?_)
      clear hK' hHeld
      refine wpAnyH_done (by kernel_rfl) ?_ _
      go_wp2
      go_roundw
      case rel => exact ⟨c + 1, by omega, by go_num, HO6, HB6⟩
      case measure => simp [intOf]; omega
    · obtain rfl : c = L r := by omega
      go_wp2
      go_ret
      exact ⟨⟨_, rfl, HO.out⟩, HB.out⟩

end Go.Proofs.YtgflalfiopnmnaaGreatDoor

namespace Go.Proofs.YtgflalfiopnmnaaGreatDoor
open Go.RowKit Vl

abbrev ptrs (T : Nat → Nat) (S : List Nat) : List Value := S.map fun j => ptr (T j)

structure MtW (w0 w : World) (WB WM base : Nat) (T : Nat → Nat) (mv : Value) (S U : List Nat) : Prop where
  blk : w.heap[WB]? = some (.cells #[mv, .map (some WM)] 141 (0, 0))
  map : MapG ptr w WM (S.map fun j => (T j, .agg #[]))
  own : w.ownsRow base 107 1 mv U.length (ptrs T U)
  bel : Below w0.heap.size w0 w

theorem MtW.below {w0 w w' : World} {WB WM base : Nat} {T : Nat → Nat} {mv : Value} {S U : List Nat} (h : MtW w0 w WB WM base T mv S U) (hb : Below w.heap.size w w') : MtW w0 w' WB WM base T mv S U :=
  ⟨blkB h.blk hb, h.map.same (hb.block _ h.map.lt), (Only.below (P := fun _ => False) hb).owns h.own (fun _ _ _ h => h), h.bel.trans (hb.mono h.bel.size)⟩

theorem MtW.mark {w0 w w' : World} {WB WM base : Nat} {T : Nat → Nat} {mv : Value} {S : List Nat} {r : Nat} (h : MtW w0 w WB WM base T mv S S) (hB : SpB w0 WB WM base) (hm : MapG ptr w' WM ((S.map fun j => (T j, Value.agg #[])) ++ [(T r, .agg #[])])) (ho : Only (fun k => k = WM) w w') :
    MtW w0 w' WB WM base T mv (S ++ [r]) S ∧ FrV WB WM mv mv w w' := by
  have hne := hB.ne
  refine ⟨⟨(ho.block _ (blk_lt h.blk) hne).trans h.blk, ?_, ?_, h.bel.trans (ho.toBelow (fun k hk => by subst hk; exact hB.wh) h.bel.size)⟩, ⟨ho.mono (fun k _ e => Or.inr (Or.inl e)), fun _ _ h => h⟩⟩
  · rw [List.map_append]; exact hm
  · refine ho.ownsB h.own (fun g hg e => ?_)
    obtain ⟨_, _, _, hk⟩ := owns_form h.own
    have := (hk _ hg).1
    have := hB.whb
    omega

theorem MtW.put {w0 w w3 : World} {WB WM base g cap : Nat} {T : Nat → Nat} {mv : Value} {S U : List Nat} {r : Nat} {o : Obj} (h : MtW w0 w WB WM base T mv S U) (hB : SpB w0 WB WM base) (hgrow : (w.alloc o).grownBy w3 mv.ownBlock)
    (hown : w3.ownsRow base 107 1 (.slice (some ⟨g, 0, none⟩) (U.length + 1) cap) (U.length + 1) (ptrs T U ++ [ptr (T r)])) (hat : w.heap.size ≤ g ∨ mv.ownBlock = some g) :
    (w3.cell? ⟨WB, 0, none⟩ = some mv ∧ ∀ j, w3.frozen? ⟨WB, j, none⟩ = false) ∧ MtW w0 (w3.setCell ⟨WB, 0, none⟩ (.slice (some ⟨g, 0, none⟩) (U.length + 1) cap)) WB WM base T (.slice (some ⟨g, 0, none⟩) (U.length + 1) cap) S (U ++ [r]) ∧
      FrV WB WM mv (.slice (some ⟨g, 0, none⟩) (U.length + 1) cap) w (w3.setCell ⟨WB, 0, none⟩ (.slice (some ⟨g, 0, none⟩) (U.length + 1) cap)) := by
  obtain ⟨_, _, _, hk⟩ := owns_form h.own
  have hwb : WB < w.heap.size := blk_lt h.blk
  have hwh : WM < w.heap.size := h.map.lt
  have hbl : ∀ k, k < w.heap.size → mv.ownBlock ≠ some k → w3.heap[k]? = w.heap[k]? := fun k hk hne =>
    (hgrow.block k (by simp; omega) (fun e => hne e.symm)).trans (Below.heap_alloc w o k hk)
  have n1 : mv.ownBlock ≠ some WB := fun e => by have := (hk _ e).1; have := hB.wbb; omega
  have n2 : mv.ownBlock ≠ some WM := fun e => by have := (hk _ e).1; have := hB.whb; omega
  have hblk := (hbl WB hwb n1).trans h.blk
  have hc := two_at hblk
  have hgb : base ≤ g := by
    obtain ⟨_, _, e, hk'⟩ := owns_form hown
    exact (hk' g (by simp [Value.ownBlock])).1
  have hsz : w.heap.size ≤ w3.heap.size := by have := hgrow.size; simp at this; omega
  have ho : Only (fun k => k = WB ∨ k = WM ∨ mv.ownBlock = some k) w w3 := ⟨hgrow.os, hgrow.tape, hgrow.output, hsz, fun k hk hp => hbl k hk (fun e => hp (Or.inr (Or.inr e)))⟩
  refine ⟨⟨hc.1, hc.2.2⟩, ⟨?_, ?_, ?_, ?_⟩, ⟨ho.set (Or.inl rfl) _, fun k hk' e => ?_⟩⟩
  · simp [World.setCell, Array.getElem?_modify, hblk]
  · exact h.map.same ((Below.heap_setCell _ _ _ _ (fun e => hB.ne e.symm)).trans (hbl WM hwh n2))
  · rw [show ptrs T (U ++ [r]) = ptrs T U ++ [ptr (T r)] by simp [ptrs], show (U ++ [r]).length = U.length + 1 by simp]
    exact ownsRow_setCell_other (a := ⟨WB, 0, none⟩) hown (by have := hB.wbb; simp only [Value.ownBlock, ne_eq, Option.some.injEq]; omega) _
  · refine (h.bel.trans (ho.toBelow (base := w0.heap.size) (fun k hk' => ?_) h.bel.size)).setCell hB.wb _
    rcases hk' with rfl | rfl | e
    · exact hB.wb
    · exact hB.wh
    · have := (hk _ e).1; have := hB.wb; have := hB.wbb; omega
  · simp only [Value.ownBlock, Option.some.injEq] at e
    subst e
    rcases hat with h' | h'
    · omega
    · exact h'

set_option maxHeartbeats 2000000 in
set_option maxRecDepth 100000 in
theorem meet_any (n : Nat) (T M : Nat → Nat) (at_ : Nat → Int) (L : Nat → Nat) (K X : Nat → Nat → V) (w0 : World) (WB WM base : Nat) (hn : n ≤ 400) (HL : Hid (∀ r, r < n → L r ≤ 100)) (HG : Hid (Good n L X))
    (HT : Hid (Tbs w0 n T M at_ L K X)) (HB : Hid (SpB w0 WB WM base)) : ∀ (f : Nat) (S : List Nat) (v : V) (w : World) (mv : Value), Hid (Fit n S) → isV n v = true → n - S.length < f → base ≤ w.heap.size → Hid (MtW w0 w WB WM base T mv S S) →
    Calls Tryz.prog 59 #[.pointer (some ⟨WB, 0, none⟩), ifv T v] w fun e w' => e = .returned (.tuple #[]) ∧ ∃ mv', MtW w0 w' WB WM base T mv' (met L X f S v) (met L X f S v) ∧ FrV WB WM mv mv' w w' := by
  intro f
  induction f with
  | zero => intro S v w mv _ _ h; omega
  | succ f ih =>
    intro S v w mv HF hv hf hbase HW
    obtain ⟨x0, x1, xz⟩ := two_at HW.out.blk
    by_cases h4 : v.k = 4
    · obtain ⟨a0, a1⟩ := isV_tab hv h4
      obtain ⟨r, hr⟩ : ∃ r : Nat, v.a = r := ⟨v.a.toNat, by omega⟩
      have hrn : r < n := by omega
      rw [ifv_tab h4, hr, Int.toNat_natCast]
      have hta := assert_yes (T r)
      have hfm : (findG (fun a b => a == b) (T r) (S.map fun j => (T j, Value.agg #[]))).isSome = decide (r ∈ S) := findG_mem T (fun _ => .agg #[]) r S (fun i hi e => HT.out.inj i r (HF.out.lt i hi) hrn e)
      have hIsB : ∀ w' : World, Below w0.heap.size w0 w' → ∀ j, j < n → IsB w' (T j) := fun w' hb j hj => by
        obtain ⟨ord, h1, _⟩ := HT.out.tab j hj
        exact ⟨_, _, (hb.block _ (blk_lt h1)).trans h1⟩
      have hokS : ∀ w' : World, Below w0.heap.size w0 w' → ∀ p ∈ (S.map fun j => (T j, Value.agg #[])), IsB w' p.1 := fun w' hb p hp => by
        obtain ⟨j, hj, rfl⟩ := List.mem_map.1 hp
        exact hIsB w' hb j (HF.out.lt j hj)
      have hlk := (HW.out.map.lookup seen_keyed (T r) (hIsB w HW.out.bel r hrn) (hokS w HW.out.bel)).1
      rw [hfm] at hlk
      by_cases hm : r ∈ S
      · rw [decide_eq_true hm] at hlk
        have hE : Hid (met L X (f + 1) S v = S) := met_old (Or.inr (by rw [hr]; exact hm))
        rw [hE.out]
        rw [findG_const] at hlk
        have hb : Below w.heap.size w (w.alloc (.cells #[] 167)) := (Below.refl _ _).alloc (Nat.le_refl _) _
        clear hfm hm hIsB hokS
        go_enter Tryz.func59, Tryz.ntmps59
        go_wp2
        refine bodyPost_ret (results_none rfl _ _ _) rfl ?_
        exact ⟨rfl, mv, HW.out.below hb, FrV.first hb⟩
      · rw [decide_eq_false hm] at hlk hfm
        have hnone : findG (fun a b => a == b) (T r) (S.map fun j => (T j, Value.agg #[])) = none := by simpa using hfm
        rw [hnone] at hlk
        have hE : Hid (met L X (f + 1) S v = mets L X f (S ++ [r]) (X r) (L r)) := by
          have := met_new (L := L) (X := X) (f := f) (S := S) h4 (by rw [hr]; exact hm)
          rw [hr] at this
          exact this
        rw [hE.out]
        obtain ⟨ma, mc, rfl, hmk⟩ := owns_form HW.out.own
        have HMK : Hid (∀ k, (Value.slice ma S.length mc).ownBlock = some k → base ≤ k ∧ k < w.heap.size) := hmk
        obtain ⟨w1, hw1⟩ : ∃ w1, w1 = w.alloc (.cells #[] 167) := ⟨_, rfl⟩
        have hb1 : Below w.heap.size w w1 := by rw [hw1]; exact (Below.refl _ _).alloc (Nat.le_refl _) _
        have hs1 : w1.heap.size = w.heap.size + 1 := by rw [hw1]; simp
        have hW1 := HW.out.below hb1
        obtain ⟨w2, hu, hM2, hO2, hs2⟩ := hW1.map.update seen_keyed (T r) (.agg #[]) (hIsB _ hW1.bel r hrn) (hokS _ hW1.bel) hnone
        obtain ⟨hW2, hF2⟩ := hW1.mark HB.out hM2 hO2
        have HW2 : Hid (MtW w0 w2 WB WM base T (.slice ma S.length mc) (S ++ [r]) S) := hW2
        have HF2 : Hid (FrV WB WM (.slice ma S.length mc) (.slice ma S.length mc) w w2) := (FrV.first hb1).trans hF2
        have HZ2 : Hid (w2.heap.size = w.heap.size + 1) := show _ = _ by omega
        obtain ⟨y0, y1, yz⟩ := two_at HW2.out.blk
        have hb1' : w1.cell? ⟨WB, 1, none⟩ = some (.map (some WM)) := (two_at hW1.blk).2.1
        rw [hw1] at hu hb1'
        clear hIsB hokS hmk hfm hnone hM2 hO2 hW2 hF2 hs2 hb1 hs1 hW1 hw1 w1
        obtain ⟨i0, hi, hz0, hz1, hz2'⟩ := info_parts Tryz.info107
        have hSl : S.length ≤ 400 := Nat.le_trans HF.out.len hn
        go_enter Tryz.func59, Tryz.ntmps59
        go_wp2_with (at_builtin; (refine wpList_append_lies _ (by rfl) (.tmp 33) (.tmp 35) 55 (by rfl) base 107 i0 (.pointer none) 1 8 Tryz.underlying55 hi hz0 hz1 hz2' (by rfl) (by omega) (.slice ma S.length mc) S.length (ptrs T S) (by rfl) (HW2.out.own.alloc _) ⟨w2.heap.size, 0, none⟩ 1 1 [ptr (T r)] (by rfl) (by rfl) ?c1 ?c2 (by omega) ?c3 ?c4 ?c5 (w2.heap.size + 1) ?c6 ?_))
        case c1 => exact World.news_of_block (heap_alloc_new w2 _)
        case c2 => intro u hu; simp at hu; subst hu; rfl
        case c3 => unfold maxLen; omega
        case c4 => omega
        case c5 => have := HZ2.out; simp; omega
        case c6 => simp
        intro g cap w3 hown3 hgrow3 hat hlt3
        obtain ⟨⟨e0, ez⟩, hW4, hF4⟩ := HW2.out.put HB.out hgrow3 hown3 (by rcases hat with h | h; exact Or.inr h; exact Or.inl (by omega))
        have HW4 : Hid _ := hW4
        have HF4 : Hid _ := HF2.out.trans hF4
        clear hW4 hF4 hown3 hgrow3 hat hlt3 hu hlk y0 y1 yz x0 x1 xz hb1' hi hz0 hz1 hz2'
        obtain ⟨mv4, hm4⟩ : ∃ o, Value.slice (some ⟨g, 0, none⟩) (S.length + 1) cap = o := ⟨_, rfl⟩
        obtain ⟨w4, hw4⟩ : ∃ w4, w4 = w3.setCell ⟨WB, 0, none⟩ (.slice (some ⟨g, 0, none⟩) (S.length + 1) cap) := ⟨_, rfl⟩
        rw [← hw4] at HW4 HF4
        rw [hm4] at HW4 HF4
        clear hm4
        obtain ⟨ord, hTb, hOr⟩ := HT.out.tab r hrn
        obtain ⟨l, hM, hfind⟩ := HT.out.map r hrn
        obtain ⟨hform, hVals⟩ := owns_keys hOr
        have HTb : Hid (TabB w0 (T r) (M r) (at_ r) ord) := hTb
        have HM : Hid (MapIs w0 (M r) l) := hM
        have HFd : Hid (∀ c, c < L r → findV (K r c) l = some (ifv T (X r c))) := hfind
        obtain ⟨ka, hka⟩ : ∃ ka, slA ord = ka := ⟨_, rfl⟩
        obtain ⟨kb, hkb⟩ : ∃ kb, slB ord = kb := ⟨_, rfl⟩
        obtain ⟨kc, hkc⟩ : ∃ kc, slC ord = kc := ⟨_, rfl⟩
        rw [hka, hkc] at hform
        rw [hka, hkb] at hVals
        have HV : Hid (ValsAt w0 ka (L r) kb 0 (K r)) := hVals
        rw [hform] at HTb
        clear hTb hM hfind hVals hOr hform hka hkb hkc
        have t2 : w4.cell? ⟨T r, 2, none⟩ = some (.slice ka (L r) kc) := (HW4.out.bel.cell (p := ⟨T r, 2, none⟩) (HT.out.lt hrn)).trans HTb.out.cells.2.2.1
        rw [hw4] at t2
        go_wp2
        rw [← hw4]
        clear t2 hw4 e0 ez
        have hLr := HL.out r hrn
        have HA : Hid (Grows n S (S ++ [r])) := HF.out.add hrn hm
        have hszS : n - (S ++ [r]).length < f := by
          have := HF.out.less hrn hm
          simp
          omega
        go_loopw [44] (fun ii wr => ∃ (c : Nat) (mc' : Value), c ≤ L r ∧ ii = .int .i64 c ∧ Hid (Grows n (S ++ [r]) (mets L X f (S ++ [r]) (X r) c)) ∧ Hid (MtW w0 wr WB WM base T mc' (mets L X f (S ++ [r]) (X r) c) (mets L X f (S ++ [r]) (X r) c)) ∧ Hid (FrV WB WM (.slice ma S.length mc) mc' w wr)) (fun ii _ => L r - (intOf ii).toNat)
        case atStart => exact ⟨0, mv4, Nat.zero_le _, rfl, HA.out.fit.refl, HW4, HF4⟩
        case round =>
          obtain ⟨c, m5, hc, rfl, HGr, HWr, HFr⟩ := hrel
          clear HW4 HF4
          have hsr : w.heap.size ≤ wr.heap.size := HFr.out.only.size
          by_cases hlt : c < L r
          · obtain rfl := HV.out.top (by omega)
            obtain ⟨k0, k1, k2, k3⟩ := (HV.out.below HWr.out.bel).cells hlt
            simp only [Nat.zero_add] at k0 k1 k2 k3
            obtain ⟨kk, HKK⟩ : ∃ kk, Hid (K r c = kk) := ⟨_, rfl⟩
            rw [HKK.out] at k0 k1 k2 k3
            obtain ⟨Sc, HSc⟩ : ∃ Sc, Hid (mets L X f (S ++ [r]) (X r) c = Sc) := ⟨_, rfl⟩
            rw [HSc.out] at HGr HWr
            have HSn : Hid (mets L X f (S ++ [r]) (X r) (c + 1) = met L X f Sc (X r c)) := by rw [mets_succ, HSc.out]; exact rfl
            go_wp2
            obtain ⟨wk, hwk⟩ : ∃ wk, wk = wr.alloc (.cells #[.int .i64 kk.k, .int .i64 kk.n, .string kk.s, .int .i64 kk.a] 24) := ⟨_, rfl⟩
            have HBk : Hid (Below wr.heap.size wr wk) := by rw [hwk]; exact (Below.refl _ _).alloc (Nat.le_refl _) _
            have HKb : Hid (ValB wk wr.heap.size kk) := by rw [hwk]; exact heap_alloc_new _ _
            rw [← hwk]
            have hszk : wk.heap.size = wr.heap.size + 1 := by rw [hwk]; simp
            obtain ⟨qb, hqb⟩ : ∃ qb, wr.heap.size = qb := ⟨_, rfl⟩
            have hq1 : WB < qb := by rw [← hqb]; exact blk_lt HWr.out.blk
            have hq2 : WM < qb := by rw [← hqb]; exact HWr.out.map.lt
            have HQ3 : Hid (m5.ownBlock ≠ some qb) := show _ ≠ _ from fun e => by
              obtain ⟨_, _, _, h⟩ := owns_form HWr.out.own
              have := (h _ e).2
              omega
            rw [hqb] at HKb ⊢
            have HWk : Hid (MtW w0 wk.drew WB WM base T m5 Sc Sc) := HWr.out.below HBk.out.drew
            have HFk : Hid (FrV WB WM (.slice ma S.length mc) m5 w wk.drew) := HFr.out.below HBk.out.drew
            clear hwk k0 k1 k2 k3 HBk HWr HFr
            have hiv := HG.out r hrn c hlt
            have hlen := HGr.out.len
            have hcall := ih Sc (X r c) wk.drew m5 HGr.out.fit hiv (by omega) (by show base ≤ wk.heap.size; omega) HWk
            have hall := met_all HG.out f Sc (X r c) HGr.out.fit hiv (by omega)
            have HGn : Hid (Grows n (S ++ [r]) (met L X f Sc (X r c))) := HGr.out.trans hall.1
            have hfc := HFd.out c hlt
            obtain ⟨xt, xy, hxv⟩ := ifv_form T (X r c)
            rw [hxv] at hcall hfc
            rw [HKK.out] at hfc
            have hS : ∀ w' : World, Below w0.heap.size w0 w' → w'.cell? ⟨T r, 1, none⟩ = some (.map (some (M r))) ∧ (Instr.lookup 119 (.map (some (M r))) (.agg #[.int .i64 kk.k, .int .i64 kk.n, .string kk.s, .int .i64 kk.a]) false).run Tryz.prog w' = .ok (.iface xt xy) w' := fun w' hb => by
              refine ⟨(hb.cell (p := ⟨T r, 1, none⟩) (HT.out.lt hrn)).trans HTb.out.cells.2.1, ?_⟩
              have := ((HM.out.same (hb.block _ HM.out.lt)).lookup kk).2
              rw [hfc] at this
              exact this
            have HS : Hid _ := hS
            clear hS hfc hxv hall hlen hiv
            refine wp_region_held_drew (S := fun w' => Below w0.heap.size w0 w' ∧ ValB w' qb kk) (by kernel_rfl) ⟨HWk.out.bel, HKb.out⟩ (fun hHeld => ?_)
            refine wpT (i := 0) (v := .pointer (some ⟨WB, 0, none⟩)) rfl (fun w hSw => ?_) hHeld ?_
            · first | rfl | go_simp
            simp only [Act.put, pz]
            refine wpT (i := 1) (v := .pointer (some ⟨T r, 0, none⟩)) rfl (fun w hSw => ?_) hHeld ?_
            · first | rfl | go_simp
            simp only [Act.put, pz]
            refine wpT (i := 2) (v := .pointer (some ⟨T r, 0, none⟩)) rfl (fun w hSw => ?_) hHeld ?_
            · first | rfl | go_simp
            simp only [Act.put, pz]
            refine wpT (i := 3) (v := .pointer (some ⟨T r, 1, none⟩)) rfl (fun w hSw => ?_) hHeld ?_
            · first | rfl | go_simp
            simp only [Act.put, pz]
            refine wpT (i := 4) (v := .map (some (M r))) rfl (fun w hSw => ?_) hHeld ?_
            · have s1 := (HS.out w hSw.1).1
              first | rfl | go_simp
            simp only [Act.put, pz]
            refine wpT (i := 5) (v := .agg #[.int .i64 kk.k, .int .i64 kk.n, .string kk.s, .int .i64 kk.a]) rfl (fun w hSw => ?_) hHeld ?_
            · obtain ⟨s0, s1, s2, s3, _⟩ := cells4 hSw.2
              first | rfl | go_simp
            simp only [Act.put, pz]
            refine wpT (i := 6) (v := .iface xt xy) rfl (fun w hSw => ?_) hHeld ?_
            · have s1 := (HS.out w hSw.1).2
              first | rfl | go_simp
            simp only [Act.put, pz]
            refine wpAnyH_ready (rs := [7]) (by kernel_rfl) (by simp) ?_
            refine AllReadyH.cons rfl (fun K' hK' => ?_) AllReadyH.nil
            go_simp
            refine hcall.mono ?_
            clear hcall
            rintro e w5 ⟨rfl, m6, hW6, hF6⟩
            have HW6 : Hid (MtW w0 w5 WB WM base T m6 (met L X f Sc (X r c)) (met L X f Sc (X r c))) := hW6
            have HF6 : Hid (FrV WB WM (.slice ma S.length mc) m6 w w5) := HFk.out.trans hF6
            have HK6 : Hid (ValB w5 qb kk) := hF6.blk (a := wk.drew) HKb.out (by omega) (by omega) HQ3.out
            refine hK'.out _ _ ⟨HW6.out.bel, HK6.out⟩ (fun hHeld => ?_)
            clear hK' hHeld hW6 hF6 HWk HFk
            refine wpAnyH_done (by kernel_rfl) ?_ _
            go_wp2
            go_roundw
            case rel => exact ⟨c + 1, m6, by omega, by go_num, by rw [HSn.out]; exact HGn, by rw [HSn.out]; exact HW6, HF6⟩
            case measure => simp [intOf]; omega
          · obtain rfl : c = L r := by omega
            go_wp2
            go_end0
            exact ⟨rfl, m5, HWr.out, HFr.out⟩
    · have hta := assert_no hv h4 T
      have hE : Hid (met L X (f + 1) S v = S) := met_old (Or.inl h4)
      rw [hE.out]
      obtain ⟨xt, xy, hxv⟩ := ifv_form T v
      rw [hxv] at hta ⊢
      clear x0 x1 xz
      go_enter Tryz.func59, Tryz.ntmps59
      go_wp2
      go_end0
      exact ⟨rfl, mv, HW.out, FrV.refl _ _ _ _⟩

end Go.Proofs.YtgflalfiopnmnaaGreatDoor
