import Derived.Test.YtagalpfmpdeifabG7
namespace Go.Proofs.Ytagalpfmpdeifab
open Go.RowKit Vl

/-- A block that holds a value. -/
def ValB (w : World) (B : Nat) (v : V) : Prop := w.heap[B]? = some (.cells #[.int .i64 v.k, .int .i64 v.n, .string v.s, .int .i64 v.a] 29 (0, 0))
theorem ValB.put {w : World} {B : Nat} {v : V} (h : ValB w B v) (x : V) : ValB ((((w.setCell ⟨B, 0, none⟩ (.int .i64 x.k)).setCell ⟨B, 1, none⟩ (.int .i64 x.n)).setCell ⟨B, 2, none⟩ (.string x.s)).setCell ⟨B, 3, none⟩ (.int .i64 x.a)) B x := put4r h _ _ _ _
theorem ValB.below {w w' : World} {B : Nat} {v : V} (h : ValB w B v) (hb : Below w.heap.size w w') : ValB w' B v := blkB h hb

/-- The blocks of 'l2get': the graph, the answer, the value that was come to. -/
structure GetW (w wr : World) (b : Nat) (g : Array Value) (v : V) : Prop where
  graph : wr.heap[b]? = some (.cells g 32 (0, 0))
  res : ValB wr (b + 1) zeroV
  cur : ValB wr (b + 2) v
  bel : Below w.heap.size w wr
theorem GetW.below {w wr wr' : World} {b : Nat} {g : Array Value} {v : V} (h : GetW w wr b g v) (hb : Below wr.heap.size wr wr') : GetW w wr' b g v :=
  ⟨blkB h.graph hb, h.res.below hb, h.cur.below hb, grw h.bel hb⟩
theorem GetW.put {w wr : World} {b : Nat} {g : Array Value} {v : V} (h : GetW w wr b g v) (hb : w.heap.size ≤ b) (x : V) : GetW w ((((wr.setCell ⟨b + 2, 0, none⟩ (.int .i64 x.k)).setCell ⟨b + 2, 1, none⟩ (.int .i64 x.n)).setCell ⟨b + 2, 2, none⟩ (.string x.s)).setCell ⟨b + 2, 3, none⟩ (.int .i64 x.a)) b g x :=
  ⟨(set4_far (by omega)).trans h.graph, (set4_far (by omega)).trans h.res, h.cur.put x, h.bel.trans (set4_below.mono (by omega))⟩

set_option maxHeartbeats 1000000 in
set_option maxRecDepth 100000 in
/-- 'l2get'. -/
theorem l2get_any (u : V) (pa : Option Addr) (m mc PB PO : Nat) (P : Nat → V) (ta : Option Addr) (n cp TB TO : Nat) (A : Nat → Option Addr) (L C RB RO : Nat → Nat) (K X : Nat → Nat → V) (w : World) (hm : m ≤ 1048576) (hn : n ≤ 1048576) (HS : Hid (Small 1048576 n L K X)) (HG : Hid (OkG n u L K X))
    (HP : Hid (ValsAt w pa m PB PO P)) (HT : Hid (TabsAt w ta n TB TO A L C RB RO K X)) :
    Calls Try.prog 59 #[.agg #[.int .i64 u.k, .int .i64 u.n, .string u.s, .int .i64 u.a, .slice ta n cp], .slice pa m mc] w fun e w' => e = .returned (vAgg (lead u L K X P m)) ∧ Below w.heap.size w w' := by
  have A3 : Hid _ := alloc3 w (.cells #[.int .i64 u.k, .int .i64 u.n, .string u.s, .int .i64 u.a, .slice ta n cp] 32) (.cells #[.int .i64 0, .int .i64 0, .string ⟨#[]⟩, .int .i64 0] 29) (.cells #[.int .i64 u.k, .int .i64 u.n, .string u.s, .int .i64 u.a] 29)
  obtain ⟨w0, hw0⟩ : ∃ w0, w0 = ((w.alloc (.cells #[.int .i64 u.k, .int .i64 u.n, .string u.s, .int .i64 u.a, .slice ta n cp] 32)).alloc (.cells #[.int .i64 0, .int .i64 0, .string ⟨#[]⟩, .int .i64 0] 29)).alloc (.cells #[.int .i64 u.k, .int .i64 u.n, .string u.s, .int .i64 u.a] 29) := ⟨_, rfl⟩
  have H0 : Hid (GetW w w0 w.heap.size #[.int .i64 u.k, .int .i64 u.n, .string u.s, .int .i64 u.a, .slice ta n cp] u) := by rw [hw0]; exact ⟨A3.out.1, A3.out.2.1, A3.out.2.2.1, A3.out.2.2.2.2⟩
  clear A3
  go_enter Try.func59, Try.ntmps59
  go_wp2
  rw [← hw0]
  obtain ⟨b, hb⟩ : ∃ b, w.heap.size = b := ⟨_, rfl⟩
  rw [hb] at H0 ⊢
  clear hw0
  go_loopw [12] (fun ii wr => ∃ i : Nat, i ≤ m ∧ ii = .int .i64 i ∧ Hid (GetW w wr b #[.int .i64 u.k, .int .i64 u.n, .string u.s, .int .i64 u.a, .slice ta n cp] (lead u L K X P i))) (fun ii _ => m - (intOf ii).toNat)
  case atStart => exact ⟨0, Nat.zero_le _, rfl, H0⟩
  case round =>
    obtain ⟨i, hi, rfl, HW⟩ := hrel
    clear H0
    by_cases hlt : i < m
    · obtain rfl := HP.out.top (by omega)
      obtain ⟨k0, k1, k2, k3⟩ := (HP.out.below HW.out.bel).cells hlt
      obtain ⟨v, HV⟩ : ∃ v, Hid (lead u L K X P i = v) := ⟨_, rfl⟩
      rw [HV.out] at HW
      obtain ⟨wk, hwk⟩ : ∃ wk, wk = wr.alloc (.cells #[.int .i64 (P i).k, .int .i64 (P i).n, .string (P i).s, .int .i64 (P i).a] 29) := ⟨_, rfl⟩
      have HBk : Hid (Below wr.heap.size wr wk) := by rw [hwk]; exact (Below.refl _ _).alloc (Nat.le_refl _) _
      have HWk : Hid (GetW w wk b #[.int .i64 u.k, .int .i64 u.n, .string u.s, .int .i64 u.a, .slice ta n cp] v) := HW.out.below HBk.out
      have HK : Hid (ValB wk wr.heap.size (P i)) := by rw [hwk]; exact heap_alloc_new _ _
      by_cases h4 : v.k = 4
      · have hiv : isV n v = true := by rw [← HV.out]; exact isV_lead HG.out i
        obtain ⟨ha0, ha1⟩ := isV_tab hiv h4
        obtain ⟨r, hr⟩ : ∃ r : Nat, v.a = r := ⟨v.a.toNat, by omega⟩
        have hrn : r < n := by omega
        obtain ⟨x, HX⟩ : ∃ x, Hid (atKey (L r) (K r) (X r) (P i) = x) := ⟨_, rfl⟩
        have HN : Hid (lead u L K X P (i + 1) = x) := by
          show step L K X (lead u L K X P i) (P i) = x
          rw [HV.out]
          unfold step
          rw [if_pos h4, hr]
          exact HX.out
        have hat := l2at_any u (P i) r ta n cp TB TO A L C RB RO K X wk hrn (HS.out r hrn).1 hn (HT.out.below HWk.out.bel)
        rw [HX.out] at hat
        have hne : (v.k != 4) = false := by simpa using h4
        obtain ⟨g0, g1, g2, g3, g4, _⟩ := cells5 HWk.out.graph
        obtain ⟨c0, c1, c2, c3, c4⟩ := cells4 HWk.out.cur
        obtain ⟨y0, y1, y2, y3, _⟩ := cells4 HK.out
        rw [hwk] at c0 c1 c2 c3 c4 g0 g1 g2 g3 g4 y0 y1 y2 y3
        rw [hr] at c3
        clear hiv ha0 ha1 h4 hr
        go_wp2_with fail
        rw [← hwk]
        refine hat.mono ?_
        clear hat hwk c0 c1 c2 c3 c4 g0 g1 g2 g3 g4 y0 y1 y2 y3
        rintro e w3 ⟨rfl, hb3⟩
        have HW3 : Hid (GetW w w3 b #[.int .i64 u.k, .int .i64 u.n, .string u.s, .int .i64 u.a, .slice ta n cp] v) := HWk.out.below hb3
        have HW4 := HW3.out.put (by omega) x
        have HW5 : Hid _ := HW4
        obtain ⟨c0, c1, c2, c3, c4⟩ := cells4 HW3.out.cur
        clear hb3 HWk HW4 HK HBk HW k0 k1 k2 k3
        unfold vAgg
        go_wp2
        go_roundw
        case rel => exact ⟨i + 1, by omega, by go_num, by rw [HN.out]; exact HW5⟩
        case measure => simp [intOf]; omega
      · have HZ : Hid (lead u L K X P m = zeroV) := by
          have := zero_stays (L := L) (K := K) (X := X) (u := u) (P := P) (i := i) (by rw [HV.out]; exact h4) (m - (i + 1))
          rw [show i + 1 + (m - (i + 1)) = m by omega] at this
          exact this
        have hne : (v.k != 4) = true := by simpa using h4
        obtain ⟨c0, c1, c2, c3, c4⟩ := cells4 HWk.out.cur
        obtain ⟨r0, r1, r2, r3, r4⟩ := cells4 HWk.out.res
        rw [hwk] at c0 c1 c2 c3 c4 r0 r1 r2 r3 r4
        go_wp2
        rw [← hwk]
        obtain ⟨q0, q1, q2, q3, _⟩ := cells4 (put4r HWk.out.res (.int .i64 0) (.int .i64 0) (.string ⟨#[]⟩) (.int .i64 0))
        refine bodyPost_ret (v := vAgg zeroV) (by simp [results, Try.results59, go_sem, q0, q1, q2, q3, zeroV]) rfl ⟨by rw [HZ.out], ?_⟩
        exact HWk.out.bel.trans (set4_below.mono (by omega))
    · obtain rfl : i = m := by omega
      obtain ⟨v, HV⟩ : ∃ v, Hid (lead u L K X P i = v) := ⟨_, rfl⟩
      rw [HV.out] at HW
      obtain ⟨c0, c1, c2, c3, c4⟩ := cells4 HW.out.cur
      obtain ⟨r0, r1, r2, r3, r4⟩ := cells4 HW.out.res
      go_wp2
      obtain ⟨q0, q1, q2, q3, _⟩ := cells4 (HW.out.res.put v)
      refine bodyPost_ret (v := vAgg v) (by simp [results, Try.results59, go_sem, q0, q1, q2, q3]) rfl ⟨by rw [HV.out], ?_⟩
      exact HW.out.bel.trans (set4_below.mono (by omega))

set_option maxHeartbeats 1000000 in
set_option maxRecDepth 100000 in
/-- 'spec.Get'. -/
theorem specGet_any (u : V) (pa : Option Addr) (m mc PB PO : Nat) (P : Nat → V) (ta : Option Addr) (n cp TB TO : Nat) (A : Nat → Option Addr) (L C RB RO : Nat → Nat) (K X : Nat → Nat → V) (w : World) (hm : m ≤ 1048576) (hn : n ≤ 1048576) (HS : Hid (Small 1048576 n L K X))
    (HP : Hid (ValsAt w pa m PB PO P)) (HT : Hid (TabsAt w ta n TB TO A L C RB RO K X)) :
    Calls Try.prog 25 #[.agg #[.int .i64 u.k, .int .i64 u.n, .string u.s, .int .i64 u.a, .slice ta n cp], .slice pa m mc] w fun e w' => ((OkG n u L K X ∧ e = .returned (vAgg (lead u L K X P m))) ∨ (¬ OkG n u L K X ∧ e = .returned (vAgg zeroV))) ∧ Below w.heap.size w w' := by
  have A2 : Hid _ := alloc2 w (.cells #[.int .i64 u.k, .int .i64 u.n, .string u.s, .int .i64 u.a, .slice ta n cp] 32) (.cells #[.int .i64 0, .int .i64 0, .string ⟨#[]⟩, .int .i64 0] 29)
  obtain ⟨w0, hw0⟩ : ∃ w0, w0 = (w.alloc (.cells #[.int .i64 u.k, .int .i64 u.n, .string u.s, .int .i64 u.a, .slice ta n cp] 32)).alloc (.cells #[.int .i64 0, .int .i64 0, .string ⟨#[]⟩, .int .i64 0] 29) := ⟨_, rfl⟩
  have P0 : Hid (w0.heap[w.heap.size]? = some (.cells #[.int .i64 u.k, .int .i64 u.n, .string u.s, .int .i64 u.a, .slice ta n cp] 32 (0, 0))) := by rw [hw0]; exact A2.out.1
  have P1 : Hid (ValB w0 (w.heap.size + 1) zeroV) := by rw [hw0]; exact A2.out.2.1
  have HB0 : Hid (Below w.heap.size w w0) := by rw [hw0]; exact A2.out.2.2.2
  clear A2
  have hsp := specOk_any u ta n cp TB TO A L C RB RO K X w0 hn HS (HT.out.below HB0.out)
  go_enter Try.func25, Try.ntmps25
  go_wp2_with fail
  rw [← hw0]
  refine hsp.mono ?_
  clear hsp hw0
  rintro e w1 ⟨⟨bs, rfl, hbs⟩, hb1⟩
  have R0 : Hid (w1.heap[w.heap.size]? = some (.cells #[.int .i64 u.k, .int .i64 u.n, .string u.s, .int .i64 u.a, .slice ta n cp] 32 (0, 0))) := blkB P0.out hb1
  have R1 : Hid (ValB w1 (w.heap.size + 1) zeroV) := P1.out.below hb1
  have HB1 : Hid (Below w.heap.size w w1) := grw HB0.out hb1
  clear hb1 P0 P1 HB0
  cases bs
  · have HN : Hid (¬ OkG n u L K X) := show ¬ OkG n u L K X from fun h => by have := hbs.2 h; cases this
    clear hbs
    obtain ⟨r0, r1, r2, r3, r4⟩ := cells4 R1.out
    go_wp2
    obtain ⟨q0, q1, q2, q3, _⟩ := cells4 (put4r R1.out (.int .i64 0) (.int .i64 0) (.string ⟨#[]⟩) (.int .i64 0))
    refine bodyPost_ret (v := vAgg zeroV) (by simp [results, Try.results25, go_sem, q0, q1, q2, q3, zeroV]) rfl ⟨Or.inr ⟨HN.out, rfl⟩, ?_⟩
    exact HB1.out.trans (set4_below.mono (by omega))
  · have HG : Hid (OkG n u L K X) := hbs.1 rfl
    clear hbs
    obtain ⟨g0, g1, g2, g3, g4, _⟩ := cells5 R0.out
    have hget := l2get_any u pa m mc PB PO P ta n cp TB TO A L C RB RO K X w1 hm hn HS HG (HP.out.below HB1.out) (HT.out.below HB1.out)
    obtain ⟨v, HV⟩ : ∃ v, Hid (lead u L K X P m = v) := ⟨_, rfl⟩
    rw [HV.out] at hget
    go_wp2_with fail
    refine hget.mono ?_
    clear hget g0 g1 g2 g3 g4
    rintro e w2 ⟨rfl, hb2⟩
    have R2 : Hid (ValB w2 (w.heap.size + 1) zeroV) := R1.out.below hb2
    have HB2 : Hid (Below w.heap.size w w2) := grw HB1.out hb2
    clear hb2 R0 R1 HB1
    obtain ⟨r0, r1, r2, r3, r4⟩ := cells4 R2.out
    unfold vAgg
    go_wp2
    obtain ⟨q0, q1, q2, q3, _⟩ := cells4 (R2.out.put v)
    refine bodyPost_ret (v := vAgg v) (by simp [results, Try.results25, go_sem, q0, q1, q2, q3]) rfl ⟨Or.inl ⟨HG.out, by rw [HV.out]⟩, ?_⟩
    exact HB2.out.trans (set4_below.mono (by omega))

end Go.Proofs.Ytagalpfmpdeifab

namespace Go.Proofs.Ytagalpfmpdeifab
open Go.RowKit Vl

def natCells (S : List Nat) : List Value := S.map fun i => .int .i64 (i : Nat)
theorem natCells_snoc (S : List Nat) (r : Nat) : natCells (S ++ [r]) = natCells S ++ [.int .i64 (r : Nat)] := by simp [natCells]

/-- The numberer of 'l2canon': S marked, T in the order. -/
structure SpW (w0 w : World) (WB WH base : Nat) (u : V) (ta : Option Addr) (n cp : Nat) (ord : Value) (S T : List Nat) : Prop where
  blk : w.heap[WB]? = some (.cells #[.int .i64 u.k, .int .i64 u.n, .string u.s, .int .i64 u.a, .slice ta n cp, .slice (some ⟨WH, 0, none⟩) n n, ord] 142 (0, 0))
  row : w.rowIs WH 3 n (fun i => .int .i64 (whereIs S i))
  own : w.ownsRow base 3 1 ord T.length (natCells T)
  bel : Below w0.heap.size w0 w

structure SpB (w0 : World) (WB WH base : Nat) : Prop where
  wb : w0.heap.size ≤ WB
  wh : w0.heap.size ≤ WH
  ne : WB ≠ WH
  wbb : WB < base
  whb : WH < base

theorem owns_form {w : World} {base t s n : Nat} {v : Value} {xs : List Value} (h : w.ownsRow base t s v n xs) : ∃ oa oc, v = .slice oa n oc ∧ (∀ k, v.ownBlock = some k → base ≤ k ∧ k < w.heap.size) := by
  rcases h.2 with ⟨rfl, hn⟩ | ⟨g, cap, cur, rfl, hgb, hh, _⟩
  · obtain ⟨rfl, _⟩ := hn
    exact ⟨none, 0, rfl, fun k hk => by simp [Value.ownBlock] at hk⟩
  · exact ⟨_, _, rfl, fun k hk => by simp [Value.ownBlock] at hk; subst hk; exact ⟨hgb, blk_lt hh⟩⟩

/-- What the numberer turns: its own block, its marks, its row. -/
structure FrV (WB WH : Nat) (ord ord' : Value) (w w' : World) : Prop where
  only : Only (fun k => k = WB ∨ k = WH ∨ ord.ownBlock = some k) w w'
  nxt : ∀ k, k < w.heap.size → ord'.ownBlock = some k → ord.ownBlock = some k
theorem FrV.refl (WB WH : Nat) (ord : Value) (w : World) : FrV WB WH ord ord w w := ⟨Only.refl _ _, fun _ _ h => h⟩
theorem FrV.trans {WB WH : Nat} {o1 o2 o3 : Value} {a b c : World} (h : FrV WB WH o1 o2 a b) (k : FrV WB WH o2 o3 b c) : FrV WB WH o1 o3 a c :=
  ⟨⟨k.only.os.trans h.only.os, k.only.tape.trans h.only.tape, k.only.output.trans h.only.output, Nat.le_trans h.only.size k.only.size, fun i hi hp => by
      rw [k.only.block i (Nat.lt_of_lt_of_le hi h.only.size) (fun x => hp (by
        rcases x with x | x | x
        · exact Or.inl x
        · exact Or.inr (Or.inl x)
        · exact Or.inr (Or.inr (h.nxt i hi x)))), h.only.block i hi hp]⟩,
    fun i hi x => h.nxt i hi (k.nxt i (Nat.lt_of_lt_of_le hi h.only.size) x)⟩
theorem FrV.below {WB WH : Nat} {o1 o2 : Value} {a b c : World} (h : FrV WB WH o1 o2 a b) (k : Below b.heap.size b c) : FrV WB WH o1 o2 a c := h.trans ⟨Only.below k, fun _ _ h => h⟩
theorem FrV.first {WB WH : Nat} {o : Value} {a b : World} (k : Below a.heap.size a b) : FrV WB WH o o a b := ⟨Only.below k, fun _ _ h => h⟩
/-- A block that is none of the numberer's stays. -/
theorem FrV.blk {WB WH : Nat} {o1 o2 : Value} {a b : World} (h : FrV WB WH o1 o2 a b) {k : Nat} {o : Obj} (hk : a.heap[k]? = some o) (h1 : k ≠ WB) (h2 : k ≠ WH) (h3 : o1.ownBlock ≠ some k) : b.heap[k]? = some o := by
  rw [h.only.block k (blk_lt hk) (fun x => by rcases x with x | x | x; exact h1 x; exact h2 x; exact h3 x)]
  exact hk

theorem SpW.below {w0 w w' : World} {WB WH base : Nat} {u : V} {ta : Option Addr} {n cp : Nat} {ord : Value} {S T : List Nat} (h : SpW w0 w WB WH base u ta n cp ord S T) (hb : Below w.heap.size w w') : SpW w0 w' WB WH base u ta n cp ord S T :=
  ⟨blkB h.blk hb, h.row.of_block (hb.block _ h.row.lt), (Only.below (P := fun _ => False) hb).owns h.own (fun _ _ _ h => h), h.bel.trans (hb.mono h.bel.size)⟩

theorem cells7 {w : World} {B : Nat} {a b c d e f g : Value} {t : TypeId} (H : w.heap[B]? = some (.cells #[a, b, c, d, e, f, g] t (0, 0))) :
    w.cell? ⟨B, 4, none⟩ = some e ∧ w.cell? ⟨B, 5, none⟩ = some f ∧ w.cell? ⟨B, 6, none⟩ = some g ∧ ∀ i, w.frozen? ⟨B, i, none⟩ = false := by
  refine ⟨?_, ?_, ?_, fun i => ?_⟩ <;> simp [World.cell?, World.frozen?, H]

/-- A table is marked. -/
theorem SpW.mark {w0 w : World} {WB WH base : Nat} {u : V} {ta : Option Addr} {n cp : Nat} {ord : Value} {S : List Nat} (h : SpW w0 w WB WH base u ta n cp ord S S) (hB : SpB w0 WB WH base) {r : Nat} (hr : r ∉ S) :
    SpW w0 (w.setCell ⟨WH, r, none⟩ (.int .i64 (S.length : Nat))) WB WH base u ta n cp ord (S ++ [r]) S ∧ FrV WB WH ord ord w (w.setCell ⟨WH, r, none⟩ (.int .i64 (S.length : Nat))) := by
  refine ⟨⟨(Below.heap_setCell _ _ _ _ hB.ne).trans h.blk, ?_, ?_, h.bel.setCell hB.wh _⟩, ⟨(Only.refl _ _).set (Or.inr (Or.inl rfl)) _, fun _ _ h => h⟩⟩
  · refine (h.row.set r _).congr (fun i _ => ?_)
    rw [whereIs_add hr]
    by_cases e : i = r
    · rw [if_pos e, if_pos e]
    · rw [if_neg e, if_neg e]
  · refine ownsRow_setCell_other h.own (fun e => ?_) _
    obtain ⟨_, _, _, hk⟩ := owns_form h.own
    have := (hk _ e).1
    have := hB.whb
    simp only at *
    omega

/-- A table is put behind the order. -/
theorem SpW.put {w0 w w3 : World} {WB WH base g cap : Nat} {u : V} {ta : Option Addr} {n cp : Nat} {ord : Value} {S T : List Nat} {r : Nat} {o : Obj} (h : SpW w0 w WB WH base u ta n cp ord S T) (hB : SpB w0 WB WH base) (hgrow : (w.alloc o).drew.grownBy w3 ord.ownBlock)
    (hown : w3.ownsRow base 3 1 (.slice (some ⟨g, 0, none⟩) (T.length + 1) cap) (T.length + 1) (natCells T ++ [.int .i64 (r : Nat)])) (hat : w.heap.size ≤ g ∨ ord.ownBlock = some g) :
    (w3.cell? ⟨WB, 6, none⟩ = some ord ∧ ∀ j, w3.frozen? ⟨WB, j, none⟩ = false) ∧ SpW w0 (w3.setCell ⟨WB, 6, none⟩ (.slice (some ⟨g, 0, none⟩) (T.length + 1) cap)) WB WH base u ta n cp (.slice (some ⟨g, 0, none⟩) (T.length + 1) cap) S (T ++ [r]) ∧
      FrV WB WH ord (.slice (some ⟨g, 0, none⟩) (T.length + 1) cap) w (w3.setCell ⟨WB, 6, none⟩ (.slice (some ⟨g, 0, none⟩) (T.length + 1) cap)) := by
  obtain ⟨_, _, _, hk⟩ := owns_form h.own
  have hwb : WB < w.heap.size := blk_lt h.blk
  have hwh : WH < w.heap.size := h.row.lt
  have hbl : ∀ k, k < w.heap.size → ord.ownBlock ≠ some k → w3.heap[k]? = w.heap[k]? := fun k hk hne =>
    (hgrow.block k (by show k < (w.alloc o).heap.size; simp; omega) (fun e => hne e.symm)).trans (Below.heap_alloc w o k hk)
  have n1 : ord.ownBlock ≠ some WB := fun e => by have := (hk _ e).1; have := hB.wbb; omega
  have n2 : ord.ownBlock ≠ some WH := fun e => by have := (hk _ e).1; have := hB.whb; omega
  have hblk := (hbl WB hwb n1).trans h.blk
  have hc := cells7 hblk
  have hgb : base ≤ g := by
    obtain ⟨_, _, e, hk'⟩ := owns_form hown
    exact (hk' g (by simp [Value.ownBlock])).1
  have hsz : w.heap.size ≤ w3.heap.size := by have := hgrow.size; simp [World.drew] at this; omega
  have ho : Only (fun k => k = WB ∨ k = WH ∨ ord.ownBlock = some k) w w3 := ⟨hgrow.os, hgrow.tape, hgrow.output, hsz, fun k hk hp => hbl k hk (fun e => hp (Or.inr (Or.inr e)))⟩
  refine ⟨⟨hc.2.2.1, hc.2.2.2⟩, ⟨?_, ?_, ?_, ?_⟩, ⟨ho.set (Or.inl rfl) _, fun k hk' e => ?_⟩⟩
  · simp [World.setCell, Array.getElem?_modify, hblk]
  · exact h.row.of_block ((Below.heap_setCell _ _ _ _ (fun e => hB.ne e.symm)).trans (hbl WH hwh n2))
  · rw [natCells_snoc, show (T ++ [r]).length = T.length + 1 by simp]
    exact ownsRow_setCell_other (a := ⟨WB, 6, none⟩) hown (by have := hB.wbb; simp only [Value.ownBlock, ne_eq, Option.some.injEq]; omega) _
  · refine (h.bel.trans (ho.toBelow (base := w0.heap.size) (fun k hk' => ?_) h.bel.size)).setCell hB.wb _
    rcases hk' with rfl | rfl | e
    · exact hB.wb
    · exact hB.wh
    · have := (hk _ e).1; have := hB.wb; have := hB.wbb; omega
  · simp only [Value.ownBlock, Option.some.injEq] at e
    subst e
    rcases hat with h' | h'
    · omega
    · exact h'

theorem Only.ownsB {P : Nat → Prop} {a b : World} (h : Only P a b) {base t s n : Nat} {v : Value} {xs : List Value} (ho : a.ownsRow base t s v n xs) (hB : ∀ g, v.ownBlock = some g → ¬ P g) : b.ownsRow base t s v n xs := by
  refine ⟨ho.1, ?_⟩
  rcases ho.2 with h2 | ⟨g, cap, cur, hv, hg, hh, r⟩
  · exact Or.inl h2
  · exact Or.inr ⟨g, cap, cur, hv, hg, by rw [h.block g (lt_of_block hh) (hB g (by rw [hv]; rfl))]; exact hh, r⟩

/-- Blocks turn that are none of the numberer's. -/
theorem SpW.far {w0 w w' : World} {WB WH base : Nat} {u : V} {ta : Option Addr} {n cp : Nat} {ord : Value} {S T : List Nat} {P : Nat → Prop} (h : SpW w0 w WB WH base u ta n cp ord S T) (ho : Only P w w') (h1 : ¬ P WB) (h2 : ¬ P WH) (h3 : ∀ g, ord.ownBlock = some g → ¬ P g) (h4 : ∀ k, P k → w0.heap.size ≤ k) : SpW w0 w' WB WH base u ta n cp ord S T :=
  ⟨(ho.block _ (blk_lt h.blk) h1).trans h.blk, h.row.of_block (ho.block _ h.row.lt h2), ho.ownsB h.own h3, h.bel.trans (ho.toBelow h4 h.bel.size)⟩
theorem FrV.new {WB WH : Nat} {o1 o2 : Value} {a b c : World} (h : FrV WB WH o1 o2 a b) (k : Below a.heap.size b c) : FrV WB WH o1 o2 a c := ⟨h.only.thenBelow k (Nat.le_refl _), h.nxt⟩

end Go.Proofs.Ytagalpfmpdeifab

namespace Go.Proofs.Ytagalpfmpdeifab
open Go.RowKit Vl

theorem share {G P : Prop} (h : Hid G → P) (g : G) : P := h g
theorem Try.infoN : (Try.prog.info? 3).map (fun i => (i.zero, i.size, i.bytes)) = some (some (.int .i64 0), 1, 8) := by kernel_rfl

set_option maxHeartbeats 2000000 in
set_option maxRecDepth 100000 in
/-- '(*l2W).val'. -/
theorem val_any (u : V) (ta : Option Addr) (n cp TB TO : Nat) (A : Nat → Option Addr) (L C RB RO : Nat → Nat) (K X : Nat → Nat → V) (w0 : World) (WB WH base : Nat) (hn : n ≤ 200) (HL : Hid (∀ r, r < n → L r ≤ 100)) (HG : Hid (Good n L X))
    (HT : Hid (TabsAt w0 ta n TB TO A L C RB RO K X)) (HB : Hid (SpB w0 WB WH base)) : ∀ (f : Nat) (S : List Nat) (v : V) (w : World) (ord : Value), Hid (Fit n S) → isV n v = true → n - S.length < f → base ≤ w.heap.size → Hid (SpW w0 w WB WH base u ta n cp ord S S) →
    Calls Try.prog 83 #[.pointer (some ⟨WB, 0, none⟩), .agg #[.int .i64 v.k, .int .i64 v.n, .string v.s, .int .i64 v.a]] w fun e w' => e = .returned (vAgg (renum (met L X f S v) v)) ∧ ∃ ord', SpW w0 w' WB WH base u ta n cp ord' (met L X f S v) (met L X f S v) ∧ FrV WB WH ord ord' w w' := by
  intro f
  induction f with
  | zero => intro S v w ord _ _ h; omega
  | succ f ih =>
    intro S v w ord HF hv hf hbase HW
    by_cases h4 : v.k = 4
    · obtain ⟨a0, a1⟩ := isV_tab hv h4
      obtain ⟨r, hr⟩ : ∃ r : Nat, v.a = r := ⟨v.a.toNat, by omega⟩
      have hrn : r < n := by omega
      obtain ⟨oa, oc, ho, hok⟩ := owns_form HW.out.own
      have A2 : Hid _ := alloc2 w (.cells #[.int .i64 v.k, .int .i64 v.n, .string v.s, .int .i64 v.a] 29) (.cells #[.int .i64 0, .int .i64 0, .string ⟨#[]⟩, .int .i64 0] 29)
      obtain ⟨w1, hw1⟩ : ∃ w1, w1 = (w.alloc (.cells #[.int .i64 v.k, .int .i64 v.n, .string v.s, .int .i64 v.a] 29)).alloc (.cells #[.int .i64 0, .int .i64 0, .string ⟨#[]⟩, .int .i64 0] 29) := ⟨_, rfl⟩
      have HB1 : Hid (Below w.heap.size w w1) := by rw [hw1]; exact A2.out.2.2.2
      have V1 : Hid (ValB w1 w.heap.size v) := by rw [hw1]; exact A2.out.1
      have R1 : Hid (ValB w1 (w.heap.size + 1) zeroV) := by rw [hw1]; exact A2.out.2.1
      have Z1 : Hid (w1.heap.size = w.heap.size + 2) := by rw [hw1]; exact A2.out.2.2.1
      have HW1 : Hid (SpW w0 w1 WB WH base u ta n cp ord S S) := HW.out.below HB1.out
      clear A2
      obtain ⟨x4, x5, x6, x7⟩ := cells7 HW.out.blk
      have xr := HW.out.row.cell hrn
      have l1 : WB < w.heap.size := blk_lt HW.out.blk
      have l2 : WH < w.heap.size := HW.out.row.lt
      have hbd : (0 : Int) ≤ (r : Int) ∧ (r : Int) < (n : Int) := by omega
      have hne : (v.k != 4) = false := by simpa using h4
      by_cases hm : r ∈ S
      · rw [whereIs_in hm] at xr
        have hE : Hid (met L X (f + 1) S v = S) := met_old (Or.inr (by rw [hr]; exact hm))
        have hR : Hid (renum S v = ⟨v.k, v.n, v.s, (S.idxOf r : Nat)⟩) := by
          show renum S v = _
          unfold renum
          rw [if_pos h4, hr]
          rfl
        obtain ⟨q, hq⟩ : ∃ q : Nat, S.idxOf r = q := ⟨_, rfl⟩
        rw [hq] at xr hR
        rw [hE.out, hR.out]
        have hge : ¬ ((q : Int) < 0) := by omega
        rw [hr]
        clear h4 hr x4 x6 hw1 HW1 HB1 V1 R1 Z1
        go_enter Try.func83, Try.ntmps83
        go_wp2
        go_region
        all_goals (try go_wp2)
        go_region
        all_goals (try go_wp2)
        have hb : Below w.heap.size w ((w.alloc (.cells #[.int .i64 v.k, .int .i64 v.n, .string v.s, .int .i64 (q : Nat)] 29)).alloc (.cells #[.int .i64 v.k, .int .i64 v.n, .string v.s, .int .i64 (q : Nat)] 29)) := ((Below.refl _ _).alloc (Nat.le_refl _) _).alloc (by simp) _
        refine bodyPost_ret (v := vAgg ⟨v.k, v.n, v.s, (q : Nat)⟩) (by simp [results, Try.results83, go_sem]) rfl ⟨rfl, ord, HW.out.below hb.drew.drew, FrV.first hb.drew.drew⟩
      · rw [whereIs_out hm] at xr
        have xz := HW.out.row.frozen r
        subst ho
        have hE : Hid (met L X (f + 1) S v = mets L X f (S ++ [r]) (X r) (L r)) := by
          have := met_new (L := L) (X := X) (f := f) (S := S) h4 (by rw [hr]; exact hm)
          rw [hr] at this
          exact this
        have HH4 : Hid (v.k = 4) := h4
        have HR0 : Hid (v.a = r) := hr
        rw [hr]
        rw [hE.out]
        clear h4 hr x4
        go_enter Try.func83, Try.ntmps83
        go_wp2
        go_region
        all_goals (try go_wp2)
        go_region
        all_goals (try go_wp2)
        obtain ⟨hWm, hFm⟩ := HW.out.mark HB.out hm
        obtain ⟨wm, hwm⟩ : ∃ wm, wm = w.setCell ⟨WH, r, none⟩ (.int .i64 (S.length : Nat)) := ⟨_, rfl⟩
        rw [← hwm] at hWm hFm ⊢
        have hszm : wm.heap.size = w.heap.size := by rw [hwm]; simp [World.setCell]
        clear hwm hw1 HW1 HB1 V1 R1 Z1
        have A2 : Hid _ := alloc2 wm (.cells #[.int .i64 v.k, .int .i64 v.n, .string v.s, .int .i64 (r : Nat)] 29) (.cells #[.int .i64 0, .int .i64 0, .string ⟨#[]⟩, .int .i64 0] 29)
        obtain ⟨w2, hw2⟩ : ∃ w2, w2 = ((wm.alloc (.cells #[.int .i64 v.k, .int .i64 v.n, .string v.s, .int .i64 (r : Nat)] 29)).alloc (.cells #[.int .i64 0, .int .i64 0, .string ⟨#[]⟩, .int .i64 0] 29)).drew.drew := ⟨_, rfl⟩
        rw [← hw2]
        rw [hszm] at A2
        have hb2 : Below wm.heap.size wm w2 := by rw [hw2, hszm]; exact A2.out.2.2.2.drew.drew
        have V2 : Hid (ValB w2 w.heap.size ⟨v.k, v.n, v.s, (r : Nat)⟩) := by rw [hw2]; exact A2.out.1
        have R2 : Hid (ValB w2 (w.heap.size + 1) zeroV) := by rw [hw2]; exact A2.out.2.1
        have Z2 : Hid (w2.heap.size = w.heap.size + 2) := by rw [hw2]; exact A2.out.2.2.1
        have HW2 : Hid (SpW w0 w2 WB WH base u ta n cp (.slice oa S.length oc) (S ++ [r]) S) := hWm.below hb2
        have HF2 : Hid (FrV WB WH (.slice oa S.length oc) (.slice oa S.length oc) w w2) := hFm.below hb2
        clear hw2 hb2 hWm hFm hszm A2 x5 x6 x7 xr xz
        obtain ⟨i0, hi, hz0, hz1, hz2⟩ := info_parts Try.infoN
        obtain ⟨_, _, x6, _⟩ := cells7 HW2.out.blk
        obtain ⟨_, _, _, c3, _⟩ := cells4 V2.out
        simp only at c3
        apply share
        · intro hG
          refine wp_region_held_drew (S := fun w' => w'.cell? ⟨w.heap.size, 3, none⟩ = some (.int .i64 (r : Nat))) (by kernel_rfl) c3 (fun hHeld => ?_)
          refine wpAnyH_take (i := 0) (v := .pointer (some ⟨WB, 0, none⟩)) rfl (by kernel_rfl) (by kernel_rfl) (by kernel_rfl) (fun _ _ _ h => h) (Or.inl ⟨by rfl, fun w hSw => ?_⟩) hHeld ?_
          · first | rfl | go_simp
          simp only [Act.put, List.setIfInBounds_toArray, List.set_cons_zero, List.set_cons_succ, List.getElem_toArray, List.getElem_cons_zero]
          refine wpAnyH_take (i := 1) (v := .pointer (some ⟨WB, 0, none⟩)) rfl (by kernel_rfl) (by kernel_rfl) (by kernel_rfl) (fun _ _ _ h => h) (Or.inl ⟨by rfl, fun w hSw => ?_⟩) hHeld ?_
          · first | rfl | go_simp
          simp only [Act.put, List.setIfInBounds_toArray, List.set_cons_zero, List.set_cons_succ, List.getElem_toArray, List.getElem_cons_zero, List.getElem_cons_succ]
          refine wpAnyH_take (i := 2) (v := .pointer (some ⟨WB, 0, none⟩)) rfl (by kernel_rfl) (by kernel_rfl) (by kernel_rfl) (fun _ _ _ h => h) (Or.inl ⟨by rfl, fun w hSw => ?_⟩) hHeld ?_
          · first | rfl | go_simp
          simp only [Act.put, List.setIfInBounds_toArray, List.set_cons_zero, List.set_cons_succ, List.getElem_toArray, List.getElem_cons_zero, List.getElem_cons_succ]
          refine wpAnyH_take (i := 3) (v := .pointer (some ⟨WB, 6, none⟩)) rfl (by kernel_rfl) (by kernel_rfl) (by kernel_rfl) (fun _ _ _ h => h) (Or.inl ⟨by rfl, fun w hSw => ?_⟩) hHeld ?_
          · first | rfl | go_simp
          simp only [Act.put, List.setIfInBounds_toArray, List.set_cons_zero, List.set_cons_succ, List.getElem_toArray, List.getElem_cons_zero, List.getElem_cons_succ]
          refine wpAnyH_take (i := 5) (v := .pointer (some ⟨w.heap.size, 3, none⟩)) rfl (by kernel_rfl) (by kernel_rfl) (by kernel_rfl) (fun _ _ _ h => h) (Or.inl ⟨by rfl, fun w hSw => ?_⟩) hHeld ?_
          · first | rfl | go_simp
          simp only [Act.put, List.setIfInBounds_toArray, List.set_cons_zero, List.set_cons_succ, List.getElem_toArray, List.getElem_cons_zero, List.getElem_cons_succ]
          refine wpAnyH_take (i := 6) (v := .int .i64 (r : Nat)) rfl (by kernel_rfl) (by kernel_rfl) (by kernel_rfl) (fun _ _ _ h => h) (Or.inl ⟨by rfl, fun w hSw => ?_⟩) hHeld ?_
          · first | rfl | (go_simp)
          simp only [Act.put, List.setIfInBounds_toArray, List.set_cons_zero, List.set_cons_succ, List.getElem_toArray, List.getElem_cons_zero, List.getElem_cons_succ]
          refine wpAnyH_ready (rs := [4, 7]) (by kernel_rfl) (by simp) ?_
          refine AllReadyH.cons rfl (fun K' hK' => ?_) (AllReadyH.cons rfl (fun K' hK' => ?_) AllReadyH.nil)
          · go_simp
            refine hK'.out _ _ c3 (fun hHeld => ?_)
            clear hK'
            refine wpAnyH_ready (rs := [7]) (by kernel_rfl) (by simp) ?_
            refine AllReadyH.cons rfl (fun K' hK' => ?_) AllReadyH.nil
            go_simp
            refine hK'.out _ _ ?_ (fun hHeld => ?_)
            · exact (((Below.refl w2.heap.size w2).alloc (Nat.le_refl _) _).drew.cell (p := ⟨w.heap.size, 3, none⟩) (by have := Z2.out; show w.heap.size < _; omega)).trans c3
            clear hK'
            exact hG.out
          · go_simp
            refine hK'.out _ _ ?_ (fun hHeld => ?_)
            · exact (((Below.refl w2.heap.size w2).alloc (Nat.le_refl _) _).drew.cell (p := ⟨w.heap.size, 3, none⟩) (by have := Z2.out; show w.heap.size < _; omega)).trans c3
            clear hK'
            have x6' : ∀ o, (w2.alloc o).cell? ⟨WB, 6, none⟩ = some (.slice oa S.length oc) := fun o => (((Below.refl w2.heap.size w2).alloc (Nat.le_refl _) o).cell (p := ⟨WB, 6, none⟩) (blk_lt HW2.out.blk)).trans x6
            refine wpAnyH_ready (rs := [4]) (by kernel_rfl) (by simp) ?_
            refine AllReadyH.cons rfl (fun K' hK' => ?_) AllReadyH.nil
            go_simp
            refine hK'.out _ _ ?_ (fun hHeld => ?_)
            · exact (((Below.refl w2.heap.size w2).alloc (Nat.le_refl _) _).drew.cell (p := ⟨w.heap.size, 3, none⟩) (by have := Z2.out; show w.heap.size < _; omega)).trans c3
            clear hK'
            exact hG.out
        · have hHeld : (fun w' : World => w'.cell? ⟨w.heap.size, 3, none⟩ = some (.int .i64 (r : Nat))) (w2.alloc (.cells #[.int .i64 (r : Nat)] 3)).drew := (((Below.refl w2.heap.size w2).alloc (Nat.le_refl _) _).drew.cell (p := ⟨w.heap.size, 3, none⟩) (by have := Z2.out; show w.heap.size < _; omega)).trans c3
          have hSl : S.length ≤ 200 := Nat.le_trans HF.out.len hn
          have hz2s := Z2.out
          refine wpAnyH_ready (rs := [8]) (by kernel_rfl) (by simp) ?_
          refine AllReadyH.cons rfl (fun K' hK' => ?_) AllReadyH.nil
          refine step_append_lies _ (by rfl) (.tmp 36) (.tmp 39) 51 (by rfl) base 3 i0 (.int .i64 0) 1 8 Try.underlying51 hi hz0 hz1 hz2 (by rfl) (by omega) (.slice oa S.length oc) S.length (natCells S) (by rfl) (((Only.below (P := fun _ => False) (((Below.refl w2.heap.size w2).alloc (Nat.le_refl _) _).drew)).owns HW2.out.own (fun _ _ _ h => h))) ⟨w2.heap.size, 0, none⟩ 1 1 [.int .i64 (r : Nat)] (by rfl) (by rfl) (World.news_of_block (w := (w2.alloc _).drew) (heap_alloc_new w2 _)) (by intro u hu; simp at hu; subst hu; rfl) (by omega) (by unfold maxLen; omega) (by omega) (by show base ≤ (w2.alloc _).heap.size; simp; omega) (w2.heap.size + 1) (by show (w2.alloc _).heap.size = _; simp) ?_
          intro g cap w3 hown3 hgrow3 hat hlt
          obtain ⟨⟨e6, ez⟩, hW4, hF4⟩ := HW2.out.put HB.out hgrow3 hown3 (by rcases hat with h | h; exact Or.inr h; exact Or.inl (by omega))
          have HW4 : Hid _ := hW4
          have HF4 : Hid _ := hF4
          have S3 : w3.cell? ⟨w.heap.size, 3, none⟩ = some (.int .i64 (r : Nat)) := (hgrow3.cell_far ⟨w.heap.size, 3, none⟩ (by show w.heap.size < (w2.alloc _).heap.size; simp; omega) (fun e => by have := (hok _ e.symm).2; simp only at this; omega)).trans hHeld
          have S4 : Hid ((w3.setCell ⟨WB, 6, none⟩ (.slice (some ⟨g, 0, none⟩) (S.length + 1) cap)).cell? ⟨w.heap.size, 3, none⟩ = some (.int .i64 (r : Nat))) := by
            have e := Below.heap_setCell w3 ⟨WB, 6, none⟩ (.slice (some ⟨g, 0, none⟩) (S.length + 1) cap) w.heap.size (show w.heap.size ≠ WB by omega)
            show _ = _
            rw [World.cell?_of_block e]
            exact S3
          refine hK'.out _ _ S3 (fun hHeld => ?_)
          clear hK' hW4 hF4 hown3 hgrow3 hat
          simp only [Act.put, List.setIfInBounds_toArray, List.set_cons_zero, List.set_cons_succ, List.getElem_toArray, List.getElem_cons_zero, List.getElem_cons_succ]
          refine wpAnyH_take (i := 9) (v := .pointer (some ⟨WB, 0, none⟩)) rfl (by kernel_rfl) (by kernel_rfl) (by kernel_rfl) (fun _ _ _ h => h) (Or.inl ⟨by rfl, fun w hSw => ?_⟩) hHeld ?_
          · first | rfl | go_simp
          simp only [Act.put, List.setIfInBounds_toArray, List.set_cons_zero, List.set_cons_succ, List.getElem_toArray, List.getElem_cons_zero, List.getElem_cons_succ]
          refine wpAnyH_take (i := 10) (v := .pointer (some ⟨WB, 6, none⟩)) rfl (by kernel_rfl) (by kernel_rfl) (by kernel_rfl) (fun _ _ _ h => h) (Or.inl ⟨by rfl, fun w hSw => ?_⟩) hHeld ?_
          · first | rfl | go_simp
          simp only [Act.put, List.setIfInBounds_toArray, List.set_cons_zero, List.set_cons_succ, List.getElem_toArray, List.getElem_cons_zero, List.getElem_cons_succ]
          refine wpAnyH_ready (rs := [11]) (by kernel_rfl) (by simp) ?_
          refine AllReadyH.cons rfl (fun K' hK' => ?_) AllReadyH.nil
          clear hHeld S3
          go_simp
          refine hK'.out _ _ S4.out (fun hHeld => ?_)
          clear hK' hHeld
          refine wpAnyH_done (by kernel_rfl) ?_ _
          obtain ⟨w4, hw4⟩ : ∃ w4, w4 = w3.setCell ⟨WB, 6, none⟩ (.slice (some ⟨g, 0, none⟩) (S.length + 1) cap) := ⟨_, rfl⟩
          rw [← hw4] at HW4 HF4 ⊢
          clear hw4 S4 e6 ez hlt c3 x6 hi hz0 hz1 hz2
          obtain ⟨ord4, ho4⟩ : ∃ o, Value.slice (some ⟨g, 0, none⟩) (S.length + 1) cap = o := ⟨_, rfl⟩
          rw [ho4] at HW4 HF4
          have hta := HT.out.top (by omega)
          subst hta
          obtain ⟨x4, x5, x6, x7⟩ := cells7 HW4.out.blk
          have V4 : Hid (ValB w4 w.heap.size ⟨v.k, v.n, v.s, (r : Nat)⟩) := HF4.out.blk V2.out (by omega) (by omega) (fun e => by have := (hok _ e).2; omega)
          obtain ⟨_, _, _, c3, _⟩ := cells4 V4.out
          simp only at c3
          have HT4 : Hid (TabsAt w4 (some ⟨TB, TO, none⟩) n TB TO A L C RB RO K X) := HT.out.below HW4.out.bel
          have t0 := HT4.out.tab r hrn
          obtain ⟨pa, hpa⟩ : ∃ a, A r = a := ⟨_, rfl⟩
          rw [hpa] at t0
          have HP : Hid (PairsAt w0 pa (L r) (RB r) (RO r) (K r) (X r)) := hpa ▸ HT.out.row r hrn
          have hLr := HL.out r hrn
          go_wp2
          go_region
          all_goals (try go_wp2)
          have HW5 : Hid (SpW w0 w4.drew WB WH base u (some ⟨TB, TO, none⟩) n cp ord4 (S ++ [r]) (S ++ [r])) := HW4.out.below (Below.refl _ _).drew
          have HF5 : Hid (FrV WB WH (.slice oa S.length oc) ord4 w2 w4.drew) := HF4.out.below (Below.refl _ _).drew
          have HA : Hid (Grows n S (S ++ [r])) := HF.out.add hrn hm
          clear x4 x5 x6 x7 c3 t0 V4 HT4 HW4 HF4 hpa ho4 hbd
          have hszS : n - (S ++ [r]).length < f := by
            have := HF.out.less hrn hm
            simp
            omega
          go_loopw [54] (fun ii wr => ∃ (c : Nat) (oc' : Value), c ≤ L r ∧ ii = .int .i64 c ∧ Hid (Grows n (S ++ [r]) (mets L X f (S ++ [r]) (X r) c)) ∧ Hid (SpW w0 wr WB WH base u (some ⟨TB, TO, none⟩) n cp oc' (mets L X f (S ++ [r]) (X r) c) (mets L X f (S ++ [r]) (X r) c)) ∧ Hid (FrV WB WH (.slice oa S.length oc) oc' w2 wr)) (fun ii _ => L r - (intOf ii).toNat)
          case atStart => exact ⟨0, ord4, Nat.zero_le _, rfl, HA.out.fit.refl, HW5, HF5⟩
          case round =>
            obtain ⟨c, o5, hc, rfl, HGr, HWr, HFr⟩ := hrel
            clear HW5 HF5
            have hsr : w2.heap.size ≤ wr.heap.size := HFr.out.only.size
            by_cases hlt : c < L r
            · obtain rfl := HP.out.top (by omega)
              obtain ⟨⟨k0, k1, k2, k3⟩, ⟨v0, v1, v2, v3⟩⟩ := (HP.out.below HWr.out.bel).cells hlt
              obtain ⟨Sc, HSc⟩ : ∃ Sc, Hid (mets L X f (S ++ [r]) (X r) c = Sc) := ⟨_, rfl⟩
              rw [HSc.out] at HGr HWr
              have HSn : Hid (mets L X f (S ++ [r]) (X r) (c + 1) = met L X f Sc (X r c)) := by rw [mets_succ, HSc.out]; exact rfl
              obtain ⟨wp, hwp⟩ : ∃ wp, wp = wr.alloc (.cells #[.int .i64 (K r c).k, .int .i64 (K r c).n, .string (K r c).s, .int .i64 (K r c).a, .int .i64 (X r c).k, .int .i64 (X r c).n, .string (X r c).s, .int .i64 (X r c).a] 63) := ⟨_, rfl⟩
              have hbp : Below wr.heap.size wr wp := by rw [hwp]; exact (Below.refl _ _).alloc (Nat.le_refl _) _
              have HWp : Hid (SpW w0 wp WB WH base u (some ⟨TB, TO, none⟩) n cp o5 Sc Sc) := HWr.out.below hbp
              have HFp : Hid (FrV WB WH (.slice oa S.length oc) o5 w2 wp) := HFr.out.below hbp
              have hiv := HG.out r hrn c hlt
              have hlen := HGr.out.len
              have hcall := ih Sc (X r c) wp o5 HGr.out.fit hiv (by omega) (by have := hbp.size; omega) HWp
              have hall := met_all HG.out f Sc (X r c) HGr.out.fit hiv (by omega)
              have HGn : Hid (Grows n (S ++ [r]) (met L X f Sc (X r c))) := HGr.out.trans hall.1
              clear hall hlen hbp hiv
              go_wp2_with fail
              rw [← hwp]
              refine hcall.mono ?_
              clear hcall hwp k0 k1 k2 k3 v0 v1 v2 v3
              rintro e w5 ⟨rfl, o6, hW6, hF6⟩
              have HW6 : Hid (SpW w0 w5 WB WH base u (some ⟨TB, TO, none⟩) n cp o6 (met L X f Sc (X r c)) (met L X f Sc (X r c))) := hW6
              have HF6 : Hid (FrV WB WH (.slice oa S.length oc) o6 w2 w5) := HFp.out.trans hF6
              clear hW6 hF6 HWp HFp HWr HFr
              go_wp2
              go_roundw
              case rel => exact ⟨c + 1, o6, by omega, by go_num, by rw [HSn.out]; exact HGn, by rw [HSn.out]; exact HW6, HF6⟩
              case measure => simp [intOf]; omega
            · obtain rfl : c = L r := by omega
              obtain ⟨Sc, HSc⟩ : ∃ Sc, Hid (mets L X f (S ++ [r]) (X r) (L r) = Sc) := ⟨_, rfl⟩
              rw [HSc.out] at HGr HWr
              have hmem : r ∈ Sc := HGr.out.mem (by simp)
              obtain ⟨q, hq⟩ : ∃ q : Nat, Sc.idxOf r = q := ⟨_, rfl⟩
              have hR : Hid (renum Sc v = ⟨v.k, v.n, v.s, (q : Nat)⟩) := by
                show renum Sc v = _
                unfold renum
                rw [if_pos HH4.out, HR0.out, ← hq]
                rfl
              have xr := HWr.out.row.cell hrn
              rw [whereIs_in hmem, hq] at xr
              obtain ⟨x4, x5, x6, x7⟩ := cells7 HWr.out.blk
              have n0 : ∀ k, w.heap.size ≤ k → (Value.slice oa S.length oc).ownBlock ≠ some k := fun k hk e => by have := (hok _ e).2; omega
              have Vr : Hid (ValB wr w.heap.size ⟨v.k, v.n, v.s, (r : Nat)⟩) := HFr.out.blk V2.out (by omega) (by omega) (n0 _ (by omega))
              have Rr : Hid (ValB wr (w.heap.size + 1) zeroV) := HFr.out.blk R2.out (by omega) (by omega) (n0 _ (by omega))
              obtain ⟨c0, c1, c2, c3, c4⟩ := cells4 Vr.out
              obtain ⟨r0, r1, r2, r3, r4⟩ := cells4 Rr.out
              simp only at c0 c1 c2 c3
              have hbd : (0 : Int) ≤ (r : Int) ∧ (r : Int) < (n : Int) := by omega
              go_wp2
              go_region
              all_goals (try go_wp2)
              have hz2s := Z2.out
              have ho : Only (fun k => k = w.heap.size ∨ k = w.heap.size + 1) wr (((((wr.setCell ⟨w.heap.size, 3, none⟩ (.int .i64 (q : Nat))).setCell ⟨w.heap.size + 1, 0, none⟩ (.int .i64 v.k)).setCell ⟨w.heap.size + 1, 1, none⟩ (.int .i64 v.n)).setCell ⟨w.heap.size + 1, 2, none⟩ (.string v.s)).setCell ⟨w.heap.size + 1, 3, none⟩ (.int .i64 (q : Nat))).drew :=
                ((((((Only.refl _ _).set (Or.inl rfl) _).set (Or.inr rfl) _).set (Or.inr rfl) _).set (Or.inr rfl) _).set (Or.inr rfl) _).trans (Only.below ((Below.refl _ _).drew))
              have hfin : ValB ((((wr.setCell ⟨w.heap.size, 3, none⟩ (.int .i64 (q : Nat))).setCell ⟨w.heap.size + 1, 0, none⟩ (.int .i64 v.k)).setCell ⟨w.heap.size + 1, 1, none⟩ (.int .i64 v.n)).setCell ⟨w.heap.size + 1, 2, none⟩ (.string v.s) |>.setCell ⟨w.heap.size + 1, 3, none⟩ (.int .i64 (q : Nat))) (w.heap.size + 1) ⟨v.k, v.n, v.s, (q : Nat)⟩ :=
                ValB.put (show ValB _ (w.heap.size + 1) zeroV from (Below.heap_setCell _ _ _ _ (show w.heap.size + 1 ≠ w.heap.size by omega)).trans Rr.out) ⟨v.k, v.n, v.s, (q : Nat)⟩
              obtain ⟨q0, q1, q2, q3, _⟩ := cells4 hfin
              simp only at q0 q1 q2 q3
              rw [HSc.out, hR.out]
              refine bodyPost_ret (v := vAgg ⟨v.k, v.n, v.s, (q : Nat)⟩) (by simp [results, Try.results83, go_sem, q0, q1, q2, q3]) rfl ⟨rfl, o5, ?_, ?_⟩
              · refine HWr.out.far ho (by omega) (by omega) (fun k hk hP => ?_) (fun k hP => ?_)
                · have hlt2 : k < w2.heap.size := by omega
                  have := (hok _ (HFr.out.nxt k hlt2 hk)).2
                  omega
                · have := HB.out.wb
                  omega
              · exact (HF2.out.trans HFr.out).new (ho.toBelow (fun k hP => by omega) (by omega))
    · have hne : (v.k != 4) = true := by simpa using h4
      have hE : Hid (met L X (f + 1) S v = S) := met_old (Or.inl h4)
      have hR : Hid (renum S v = v) := by show renum S v = v; unfold renum; rw [if_neg h4]
      rw [hE.out, hR.out]
      go_enter Try.func83, Try.ntmps83
      go_wp2
      have hb : Below w.heap.size w ((w.alloc (.cells #[.int .i64 v.k, .int .i64 v.n, .string v.s, .int .i64 v.a] 29)).alloc (.cells #[.int .i64 v.k, .int .i64 v.n, .string v.s, .int .i64 v.a] 29)) := ((Below.refl _ _).alloc (Nat.le_refl _) _).alloc (by simp) _
      refine bodyPost_ret (v := vAgg v) (by simp [results, Try.results83, go_sem]) rfl ⟨rfl, ord, HW.out.below hb, FrV.first hb⟩

end Go.Proofs.Ytagalpfmpdeifab
