import Derived.Test.YtgflalfiopnmnaaGreatDoorM7
import Derived.Test.YtgflalfiopnmnaaGreatDoorM9
import Derived.Deep.Upon
namespace Go.Proofs.YtgflalfiopnmnaaGreatDoor
open Go.RowKit Vl

theorem Tbs.onlyT {w w' : World} {n : Nat} {T M : Nat → Nat} {at_ : Nat → Int} {L : Nat → Nat} {K X : Nat → Nat → V} {P : Nat → Prop} (h : Tbs w n T M at_ L K X) (ho : Only P w w') (hP : ∀ k, k < w.heap.size → P k → ∃ cs t z, w.heap[k]? = some (.cells cs t z) ∧ t ≠ 121 ∧ t ≠ 24) :
    Tbs w' n T M at_ L K X ∧ ∀ j, j < n → w'.heap[T j]? = w.heap[T j]? := by
  have hT : ∀ j, j < n → w'.heap[T j]? = w.heap[T j]? := fun j hj => by
    obtain ⟨ord, a1, _⟩ := h.tab j hj
    refine ho.block _ (blk_lt a1) (fun e => ?_)
    obtain ⟨cs, t, z, hc, h1, _⟩ := hP _ (blk_lt a1) e
    unfold TabB at a1
    rw [hc] at a1
    cases a1
    exact h1 rfl
  refine ⟨⟨fun j hj => ?_, fun j hj => ?_, h.inj, h.noneB (fun j hj => ?_)⟩, hT⟩
  rotate_left 2
  · obtain ⟨l, a1, _⟩ := h.map j hj
    refine ho.block _ a1.lt (fun e => ?_)
    obtain ⟨cs, t, z, hc, _⟩ := hP _ a1.lt e
    obtain ⟨es, clk, hb, _⟩ := a1
    rw [hc] at hb
    cases hb
  · obtain ⟨ord, a1, a2⟩ := h.tab j hj
    refine ⟨ord, (hT j hj).trans a1, ho.ownsB a2 (fun g hg e => ?_)⟩
    obtain ⟨_, cur, hc⟩ := owns_type a2 hg
    obtain ⟨cs, t, z, hc', _, h2⟩ := hP _ (blk_lt hc) e
    rw [hc] at hc'
    cases hc'
    exact h2 rfl
  · obtain ⟨l, a1, a2⟩ := h.map j hj
    refine ⟨l, a1.same (ho.block _ a1.lt (fun e => ?_)), a2⟩
    obtain ⟨cs, t, z, hc, _⟩ := hP _ a1.lt e
    obtain ⟨es, clk, hb, _⟩ := a1
    rw [hc] at hb
    cases hb

structure GrS where
  U : Nat → V
  n : Nat → Nat
  L : Nat → Nat → Nat
  K : Nat → Nat → Nat → V
  X : Nat → Nat → Nat → V

def GrS.off (G : GrS) : Nat → Nat
  | 0 => 0
  | q + 1 => G.off q + G.n q

theorem GrS.off_le (G : GrS) {p q : Nat} (h : p < q) : G.off p + G.n p ≤ G.off q := by
  induction q with
  | zero => omega
  | succ q ih =>
    show _ ≤ G.off q + G.n q
    by_cases e : p = q
    · subst e; exact Nat.le_refl _
    · have := ih (by omega); omega

structure Cmb (G : GrS) (q : Nat) (L : Nat → Nat) (K X : Nat → Nat → V) : Prop where
  tab : ∀ p, p < q → ∀ j, j < G.n p → L (G.off p + j) = G.L p j ∧ K (G.off p + j) = G.K p j ∧ ∀ c, X (G.off p + j) c = sh (G.off p) (G.X p j c)
  ok : ∀ p, p < q → OkG (G.n p) (G.U p) (G.L p) (G.K p) (G.X p)
  good : Good (G.off q) L X
  key : ∀ j, j < G.off q → L j ≤ 100 ∧ ∀ c, c < L j → isK (K j c) = true

theorem Cmb.next {G : GrS} {q : Nat} {L : Nat → Nat} {K X : Nat → Nat → V} (h : Cmb G q L K X) (hok : OkG (G.n q) (G.U q) (G.L q) (G.K q) (G.X q)) : Cmb G (q + 1) (jn (G.off q) L (G.L q)) (jn (G.off q) K (G.K q)) (jn (G.off q) X (fun j c => sh (G.off q) (G.X q j c))) := by
  refine ⟨fun p hp j hj => ?_, fun p hp => ?_, h.good.join (good_of hok), fun j hj => ?_⟩
  · by_cases e : p = q
    · subst e
      simp only [jn_add]
      exact ⟨trivial, trivial, fun _ => trivial⟩
    · have := G.off_le (show p < q by omega)
      simp only [jn_lt (show G.off p + j < G.off q by omega)]
      exact h.tab p (by omega) j hj
  · by_cases e : p = q
    · subst e; exact hok
    · exact h.ok p (by omega)
  · have hj' : j < G.off q + G.n q := hj
    by_cases e : j < G.off q
    · simp only [jn_lt e]
      exact h.key j e
    · simp only [jn_ge e]
      have := hok.all (j - G.off q) (by omega)
      exact ⟨this.len, fun c hc => (this.all c hc).key⟩

structure Cf1 (G : GrS) (w wr : World) (q : Nat) (T M : Nat → Nat) (at_ : Nat → Int) (L : Nat → Nat) (K X : Nat → Nat → V) (rv tv : Value) : Prop where
  blk : wr.heap[w.heap.size + 1]? = some (.cells #[rv, tv, .slice none 0 0] 95 (0, 0))
  res : wr.heap[w.heap.size]? = some (.cells #[.slice none 0 0, .slice none 0 0, .slice none 0 0] 95 (0, 0))
  roots : wr.ownsRow (w.heap.size + 2) 54 1 rv q ((List.range q).map fun p => ifv T (sh (G.off p) (G.U p)))
  tabs : wr.ownsRow (w.heap.size + 2) 107 1 tv (G.off q) ((List.range (G.off q)).map fun j => ptr (T j))
  tbs : Tbs wr (G.off q) T M at_ L K X
  ap : Ap wr (w.heap.size + 2) (G.off q) T M
  cmb : Cmb G q L K X
  bel : Below w.heap.size w wr
  size : w.heap.size + 2 ≤ wr.heap.size

theorem Cf1.below {G : GrS} {w wr wk : World} {q : Nat} {T M : Nat → Nat} {at_ : Nat → Int} {L : Nat → Nat} {K X : Nat → Nat → V} {rv tv : Value} (h : Cf1 G w wr q T M at_ L K X rv tv) (hb : Below wr.heap.size wr wk) : Cf1 G w wk q T M at_ L K X rv tv where
  blk := blkB h.blk hb
  res := blkB h.res hb
  roots := (Only.below (P := fun _ => False) hb).owns h.roots (fun _ _ _ h => h)
  tabs := (Only.below (P := fun _ => False) hb).owns h.tabs (fun _ _ _ h => h)
  tbs := h.tbs.below hb
  ap := h.ap.same (fun _ hj => hb.block _ (h.tbs.lt hj))
  cmb := h.cmb
  bel := h.bel.trans (hb.mono h.bel.size)
  size := Nat.le_trans h.size hb.size

theorem Cf1.next {G : GrS} {w wr wk w6 : World} {q b : Nat} {T M : Nat → Nat} {at_ : Nat → Int} {L base : Nat → Nat} {K X : Nat → Nat → V} {rv tv rv' tv' : Value} (h : Cf1 G w wr q T M at_ L K X rv tv) (hb : Below wr.heap.size wr wk) (hH : Half wk b (G.n q) (G.n q) base (G.L q) (G.K q) (G.X q)) (hA : Ap wk b (G.n q) (tT b) (tM b)) (hbb : wr.heap.size ≤ b) (hok : OkG (G.n q) (G.U q) (G.L q) (G.K q) (G.X q))
    (ho : Only (fun k => k = w.heap.size + 1 ∨ rv.ownBlock = some k ∨ tv.ownBlock = some k) wk w6) (hblk : w6.heap[w.heap.size + 1]? = some (.cells #[rv', tv', .slice none 0 0] 95 (0, 0)))
    (hroots : w6.ownsRow (w.heap.size + 2) 54 1 rv' (q + 1) (((List.range q).map fun p => ifv T (sh (G.off p) (G.U p))) ++ [ifv (tT b) (G.U q)]))
    (htabs : w6.ownsRow (w.heap.size + 2) 107 1 tv' (G.off q + G.n q) (((List.range (G.off q)).map fun j => ptr (T j)) ++ ((List.range (G.n q)).map fun j => ptr (tT b j)))) :
    Cf1 G w w6 (q + 1) (jn (G.off q) T (tT b)) (jn (G.off q) M (tM b)) (jn (G.off q) at_ (fun j => (j : Nat))) (jn (G.off q) L (G.L q)) (jn (G.off q) K (G.K q)) (jn (G.off q) X (fun j c => sh (G.off q) (G.X q j c))) rv' tv' := by
  have hk := h.below hb
  have hne : ∀ i j, i < G.off q → j < G.n q → T i ≠ tT b j := fun i j hi hj => by
    have := h.tbs.lt hi
    unfold tT
    omega
  have hj := hk.tbs.join (hH.tbs hok) h.cmb.good (good_of hok) hne
  have hP : ∀ k, k < wk.heap.size → (k = w.heap.size + 1 ∨ rv.ownBlock = some k ∨ tv.ownBlock = some k) → ∃ cs t z, wk.heap[k]? = some (.cells cs t z) ∧ t ≠ 121 ∧ t ≠ 24 := fun k _ hp => by
    rcases hp with rfl | e | e
    · exact ⟨_, _, _, hk.blk, by decide, by decide⟩
    · obtain ⟨_, cur, hc⟩ := owns_type hk.roots e
      exact ⟨_, _, _, hc, by decide, by decide⟩
    · obtain ⟨_, cur, hc⟩ := owns_type hk.tabs e
      exact ⟨_, _, _, hc, by decide, by decide⟩
  obtain ⟨ht6, hsame⟩ := hj.onlyT ho hP
  have haj := hk.ap.join hA (show w.heap.size + 2 ≤ b by have := h.size; omega) (fun j a o g hj ht hg => by
    obtain ⟨ord, k1, k2⟩ := h.tbs.tab j hj
    have e2 := TabB.ord (show TabB wk (T j) (M j) (at_ j) ord from (hb.block _ (blk_lt k1)).trans k1) ht
    subst e2
    obtain ⟨_, _, _, hk'⟩ := owns_form k2
    have := (hk' g hg).2
    omega) (fun j hj => by
    obtain ⟨l, k1, _⟩ := h.tbs.map j hj
    have := k1.lt
    omega)
  have hroot : ∀ p, p < q → isV (G.off q) (sh (G.off p) (G.U p)) = true := fun p hp => by
    have h1 := sh_isV (N := G.off p) (h.cmb.ok p hp).root
    have h2 := G.off_le hp
    have h3 := isV_more (n := G.off q - (G.off p + G.n p)) h1
    rw [show G.off p + G.n p + (G.off q - (G.off p + G.n p)) = G.off q by omega] at h3
    exact h3
  refine ⟨hblk, ?_, ?_, ?_, ht6, haj.same hsame, h.cmb.next hok, ?_, ?_⟩
  · rw [ho.block _ (blk_lt hk.res) (fun e => ?_)]
    · exact hk.res
    · rcases e with e | e | e
      · omega
      · have := (owns_type hk.roots e).1; omega
      · have := (owns_type hk.tabs e).1; omega
  · have e1 : ((List.range q).map fun p => ifv (jn (G.off q) T (tT b)) (sh (G.off p) (G.U p))) = (List.range q).map fun p => ifv T (sh (G.off p) (G.U p)) := List.map_congr_left (fun p hp => (ifv_congr (hroot p (List.mem_range.1 hp)) (fun h4 => by
      obtain ⟨a0, a1⟩ := isV_tab (hroot p (List.mem_range.1 hp)) h4
      rw [jn_lt (by omega)])))
    rw [List.range_succ, List.map_append, e1, List.map_cons, List.map_nil, ← ifv_sh hok.root (fun j _ => jn_add j)]
    exact hroots
  · have e1 : ((List.range (G.off q)).map fun j => ptr (jn (G.off q) T (tT b) j)) = (List.range (G.off q)).map fun j => ptr (T j) := List.map_congr_left (fun j hj => by rw [jn_lt (List.mem_range.1 hj)])
    have e2 : ((List.range (G.n q)).map ((fun j => ptr (jn (G.off q) T (tT b) j)) ∘ (fun x => G.off q + x))) = (List.range (G.n q)).map fun j => ptr (tT b j) := List.map_congr_left (fun j _ => by simp only [Function.comp, jn_add])
    show w6.ownsRow _ _ 1 tv' (G.off q + G.n q) ((List.range (G.off q + G.n q)).map _)
    rw [List.range_add, List.map_append, List.map_map, e1, e2]
    exact htabs
  · exact hk.bel.trans (ho.toBelow (fun k e => by
      rcases e with e | e | e
      · omega
      · have := (owns_type hk.roots e).1; omega
      · have := (owns_type hk.tabs e).1; omega) hk.bel.size)
  · exact Nat.le_trans hk.size ho.size

end Go.Proofs.YtgflalfiopnmnaaGreatDoor

namespace Go.Proofs.YtgflalfiopnmnaaGreatDoor
open Go.RowKit Vl

theorem Tryz.infoVal : (Tryz.prog.info? 54).map (fun i => (i.zero, i.size, i.bytes)) = some (some .nilIface, 1, 16) := by kernel_rfl
theorem three_at {w : World} {B : Nat} {a b c : Value} {t : TypeId} (H : w.heap[B]? = some (.cells #[a, b, c] t (0, 0))) : w.cell? ⟨B, 0, none⟩ = some a ∧ w.cell? ⟨B, 1, none⟩ = some b ∧ w.cell? ⟨B, 2, none⟩ = some c ∧ ∀ i, w.frozen? ⟨B, i, none⟩ = false := by
  refine ⟨?_, ?_, ?_, fun i => ?_⟩ <;> simp [World.cell?, World.frozen?, H]

structure GsAt (w : World) (m gb : Nat) (G : GrS) (ta : Nat → Option Addr) (cp TB TO : Nat → Nat) (A : Nat → Nat → Option Addr) (C RB RO : Nat → Nat → Nat) : Prop where
  k : ∀ q, q < m → w.cell? ⟨gb, q * 5, none⟩ = some (.int .i64 (G.U q).k)
  n : ∀ q, q < m → w.cell? ⟨gb, q * 5 + 1, none⟩ = some (.int .i64 (G.U q).n)
  s : ∀ q, q < m → w.cell? ⟨gb, q * 5 + 2, none⟩ = some (.string (G.U q).s)
  a : ∀ q, q < m → w.cell? ⟨gb, q * 5 + 3, none⟩ = some (.int .i64 (G.U q).a)
  t : ∀ q, q < m → w.cell? ⟨gb, q * 5 + 4, none⟩ = some (.slice (ta q) (G.n q) (cp q))
  small : ∀ q, q < m → G.n q ≤ 1048576 ∧ Small 1048576 (G.n q) (G.L q) (G.K q) (G.X q)
  tabs : ∀ q, q < m → TabsAt w (ta q) (G.n q) (TB q) (TO q) (A q) (G.L q) (C q) (RB q) (RO q) (G.K q) (G.X q)

theorem owns_setC {w : World} {base t s n : Nat} {v : Value} {xs : List Value} (h : w.ownsRow base t s v n xs) {p : Addr} (hp : p.block < base) (x : Value) : (w.setCell p x).ownsRow base t s v n xs :=
  ownsRow_setCell_other h (fun e => by
    obtain ⟨_, _, _, hk⟩ := owns_form h
    have := (hk _ e).1
    omega) _

theorem wpList_append_own {P : Program} {w : World} {ops : Array Oper} {rest : List Oper} {o : Oper} {a : Act} {Q : Exit → Act → World → Prop} (hgd : o.guard = none) (s x : Operand) (t : TypeId)
    (ho : o.op = .call { callee := .builtin .append, args := #[s, x], argTypes := #[t, t] })
    (base : Nat) (e : TypeId) (i : TypeInfo) (z : Value) (size bytes : Nat) (ht : P.underlying t = some (.slice e)) (hi : P.info? e = some i) (hz : i.zero = some z)
    (hsize : i.size = size) (hby : i.bytes = bytes) (hzs : z.cells.size = size) (hsz : 0 < size)
    (v : Value) (n : Nat) (xs : List Value) (hs : a.eval s = v) (hown : w.ownsRow base e size v n xs)
    (ad : Addr) (m c : Nat) (news : List Value) (hx : a.eval x = .slice (some ad) m c) (hl : news.length = m * size) (hnews : ∀ j u, news[j]? = some u → w.cell? (ad.add j) = some u) (h1 : ∀ u ∈ news, u.oneCell' = true)
    (h63 : n + m ≤ maxLen) (hbytes : (n + m) * bytes ≤ 140737488355328) (hbase : base ≤ w.heap.size)
    (h : ∀ v' w', w'.ownsRow base e size v' (n + m) (xs ++ news) → w.grownBy w' v.ownBlock → wpList P ops Q rest (a.put o.dst v') w') : wpList P ops Q (o :: rest) a w :=
  wpList_plain hgd fun K hK => by
    obtain ⟨v', w', hr, h2, h3, _⟩ := run_append_own_at (P := P) w base t o.type e i z size bytes ht hi hz hsize hby hzs hsz v n xs hown ad m c news hl hnews h1 h63 hbytes hbase
    unfold Oper.wp execOp
    simp only [ho, resolve, invoke, builtin, Sem.run_bind, Sem.run_pure, Result.andThen_ok, List.map_toArray, List.map_cons, List.map_nil, hs, hx, hr]
    exact hK _ _ (h v' w' h2 h3)
theorem news_of_cells {w : World} {B n : Nat} {f : Nat → Value} (h : ∀ j, j < n → w.cell? ⟨B, j, none⟩ = some (f j)) : ∀ j u, ((List.range n).map f)[j]? = some u → w.cell? ((⟨B, 0, none⟩ : Addr).add j) = some u := fun j u hu => by
  have hadd : (⟨B, 0, none⟩ : Addr).add j = ⟨B, j, none⟩ := by unfold Addr.add; split <;> simp_all
  rw [hadd]
  have hj : j < n := by
    have := (List.getElem?_eq_some_iff.1 hu).1
    simpa using this
  rw [h j hj]
  simpa [hj] using hu

theorem put_root {wl w3 : World} {c base q N g cap : Nat} {rv tv y x : Value} {xs ys : List Value} {o : Obj} (hblk : wl.heap[c]? = some (.cells #[rv, tv, y] 95 (0, 0))) (hc : c < base) (hr : wl.ownsRow base 54 1 rv q xs) (ht : wl.ownsRow base 107 1 tv N ys) (hgrow : (wl.alloc o).grownBy w3 rv.ownBlock) (hown : w3.ownsRow base 54 1 (.slice (some ⟨g, 0, none⟩) (q + 1) cap) (q + 1) (xs ++ [x])) :
    w3.heap[c]? = some (.cells #[rv, tv, y] 95 (0, 0)) ∧ (w3.setCell ⟨c, 0, none⟩ (.slice (some ⟨g, 0, none⟩) (q + 1) cap)).heap[c]? = some (.cells #[.slice (some ⟨g, 0, none⟩) (q + 1) cap, tv, y] 95 (0, 0)) ∧
      (w3.setCell ⟨c, 0, none⟩ (.slice (some ⟨g, 0, none⟩) (q + 1) cap)).ownsRow base 54 1 (.slice (some ⟨g, 0, none⟩) (q + 1) cap) (q + 1) (xs ++ [x]) ∧ (w3.setCell ⟨c, 0, none⟩ (.slice (some ⟨g, 0, none⟩) (q + 1) cap)).ownsRow base 107 1 tv N ys ∧ Only (fun k => k = c ∨ rv.ownBlock = some k) wl (w3.setCell ⟨c, 0, none⟩ (.slice (some ⟨g, 0, none⟩) (q + 1) cap)) := by
  have hbl : ∀ k, k < wl.heap.size → rv.ownBlock ≠ some k → w3.heap[k]? = wl.heap[k]? := fun k hk hne =>
    (hgrow.block k (by simp; omega) (fun e => hne e.symm)).trans (Below.heap_alloc wl o k hk)
  have hsz : wl.heap.size ≤ w3.heap.size := by have := hgrow.size; simp at this; omega
  have ho : Only (fun k => k = c ∨ rv.ownBlock = some k) wl w3 := ⟨hgrow.os, hgrow.tape, hgrow.output, hsz, fun k hk hp => hbl k hk (fun e => hp (Or.inr e))⟩
  have n1 : rv.ownBlock ≠ some c := fun e => by have := (owns_type hr e).1; omega
  have h3 : w3.heap[c]? = some (.cells #[rv, tv, y] 95 (0, 0)) := (hbl c (blk_lt hblk) n1).trans hblk
  refine ⟨h3, ?_, owns_setC hown (p := ⟨c, _, none⟩) hc _, owns_setC (p := ⟨c, _, none⟩) (ho.ownsB ht (fun g' hg' e => ?_)) hc _, ho.set (Or.inl rfl) _⟩
  · simp [World.setCell, Array.getElem?_modify, h3]
  · obtain ⟨hlo, cur, hcur⟩ := owns_type ht hg'
    rcases e with e | e
    · omega
    · obtain ⟨_, cur', hcur'⟩ := owns_type hr e
      rw [hcur] at hcur'
      cases hcur'

theorem put_tabs {w4 w5 : World} {c base q N' : Nat} {rv tv tv' y : Value} {xs ys : List Value} (hblk : w4.heap[c]? = some (.cells #[rv, tv, y] 95 (0, 0))) (hc : c < base) (hr : w4.ownsRow base 54 1 rv q xs) (hv : ∀ g, tv.ownBlock = some g → base ≤ g ∧ ∃ cur, w4.heap[g]? = some (.cells cur 107 (0, 0))) (hgrow : w4.grownBy w5 tv.ownBlock) (hown : w5.ownsRow base 107 1 tv' N' ys) :
    w5.heap[c]? = some (.cells #[rv, tv, y] 95 (0, 0)) ∧ (w5.setCell ⟨c, 1, none⟩ tv').heap[c]? = some (.cells #[rv, tv', y] 95 (0, 0)) ∧
      (w5.setCell ⟨c, 1, none⟩ tv').ownsRow base 54 1 rv q xs ∧ (w5.setCell ⟨c, 1, none⟩ tv').ownsRow base 107 1 tv' N' ys ∧ Only (fun k => k = c ∨ tv.ownBlock = some k) w4 (w5.setCell ⟨c, 1, none⟩ tv') := by
  have ho : Only (fun k => k = c ∨ tv.ownBlock = some k) w4 w5 := ⟨hgrow.os, hgrow.tape, hgrow.output, hgrow.size, fun k hk hp => hgrow.block k hk (fun e => hp (Or.inr e.symm))⟩
  have n1 : tv.ownBlock ≠ some c := fun e => by have := (hv _ e).1; omega
  have h5 : w5.heap[c]? = some (.cells #[rv, tv, y] 95 (0, 0)) := (hgrow.block c (blk_lt hblk) (fun e => n1 e.symm)).trans hblk
  refine ⟨h5, ?_, owns_setC (p := ⟨c, _, none⟩) (ho.ownsB hr (fun g' hg' e => ?_)) hc _, owns_setC hown (p := ⟨c, _, none⟩) hc _, ho.set (Or.inl rfl) _⟩
  · simp [World.setCell, Array.getElem?_modify, h5]
  · obtain ⟨hlo, cur, hcur⟩ := owns_type hr hg'
    rcases e with e | e
    · omega
    · obtain ⟨_, cur', hcur'⟩ := hv _ e
      rw [hcur] at hcur'
      cases hcur'

structure Cfd (G : GrS) (w w' : World) (m : Nat) (T M : Nat → Nat) (L : Nat → Nat) (K X : Nat → Nat → V) (ls : Nat → List Nat) (f : Nat → Nat) (rv tv : Value) (cb : Nat) : Prop where
  roots : w'.ownsRow (w.heap.size + 2) 54 1 rv m ((List.range m).map fun p => ifv T (sh (G.off p) (G.U p)))
  tabs : w'.ownsRow (w.heap.size + 2) 107 1 tv (G.off m) ((List.range (G.off m)).map fun j => ptr (T j))
  cls : w'.rowIs cb 3 (G.off m) (fun i => .int .i64 (f i : Nat))
  lo : w.heap.size ≤ cb
  tbs : Tbs w' (G.off m) T M (fun j => (j : Nat)) L (sK K ls) (sK X ls)
  ap : Ap w' (w.heap.size + 2) (G.off m) T M
  srt : ∀ j, j < G.off m → SortI (K j) (L j) (ls j)
  is : IsCls (G.off m) L (sK K ls) (sK X ls) f
  cmb : Cmb G m L K X

theorem three_put {w : World} {B : Nat} {a b c : Value} {t : TypeId} (H : w.heap[B]? = some (.cells #[a, b, c] t (0, 0))) (a' b' c' : Value) : (((w.setCell ⟨B, 0, none⟩ a').setCell ⟨B, 1, none⟩ b').setCell ⟨B, 2, none⟩ c').heap[B]? = some (.cells #[a', b', c'] t (0, 0)) := by
  simp [World.setCell, Array.getElem?_modify, H]

structure Cf2 (w4 wr : World) (base N i : Nat) (T M : Nat → Nat) (at_ : Nat → Int) (L : Nat → Nat) (K X : Nat → Nat → V) (ls : Nat → List Nat) : Prop where
  tbs : Tbs wr N T M (fun j => if j < i then (j : Nat) else at_ j) L (fun j => if j < i then byI (K j) (ls j) else K j) (fun j => if j < i then byI (X j) (ls j) else X j)
  ap : Ap wr base N T M
  srt : ∀ j, j < i → SortI (K j) (L j) (ls j)
  keep : ∀ (k : Nat) (cs : Array Value) (t : TypeId) (z : Nat × Nat), w4.heap[k]? = some (.cells cs t z) → t ≠ 121 → t ≠ 24 → wr.heap[k]? = some (.cells cs t z)
  bel : Below base w4 wr

theorem Tbs.empty {w : World} {n : Nat} {T M : Nat → Nat} {at_ : Nat → Int} {L : Nat → Nat} {K X : Nat → Nat → V} (h : Tbs w n T M at_ L K X) {r : Nat} (h0 : L r = 0) (k x : Nat → V) : Tbs w n T M at_ L (upd K r k) (upd X r x) := by
  refine ⟨fun j hj => ?_, fun j hj => ?_, h.inj, fun j hj l hl v hv => ?_⟩
  rotate_left 2
  · refine h.gone j hj l hl v (fun c hc => ?_)
    by_cases e : j = r
    · subst e; omega
    · rw [upd_ne K _ e] at hv
      exact hv c hc
  · obtain ⟨ord, h1, h2⟩ := h.tab j hj
    by_cases e : j = r
    · subst e
      rw [h0] at h2 ⊢
      exact ⟨ord, h1, h2⟩
    · rw [upd_ne K _ e]
      exact ⟨ord, h1, h2⟩
  · obtain ⟨l, h1, h2⟩ := h.map j hj
    refine ⟨l, h1, fun c hc => ?_⟩
    by_cases e : j = r
    · subst e; omega
    · rw [upd_ne K _ e, upd_ne X _ e]
      exact h2 c hc

theorem Cf2.setAt {w4 wr : World} {base N i : Nat} {T M : Nat → Nat} {at_ : Nat → Int} {L : Nat → Nat} {K X : Nat → Nat → V} {ls : Nat → List Nat} (h : Cf2 w4 wr base N i T M at_ L K X ls) (hi : i < N) :
    Tbs (wr.setCell ⟨T i, 0, none⟩ (.int .i64 (i : Nat))) N T M (fun j => if j < i + 1 then (j : Nat) else at_ j) L (fun j => if j < i then byI (K j) (ls j) else K j) (fun j => if j < i then byI (X j) (ls j) else X j) ∧
      Ap (wr.setCell ⟨T i, 0, none⟩ (.int .i64 (i : Nat))) base N T M ∧ (∀ (k : Nat) (cs : Array Value) (t : TypeId) (z : Nat × Nat), w4.heap[k]? = some (.cells cs t z) → t ≠ 121 → t ≠ 24 → (wr.setCell ⟨T i, 0, none⟩ (.int .i64 (i : Nat))).heap[k]? = some (.cells cs t z)) ∧ Below base w4 (wr.setCell ⟨T i, 0, none⟩ (.int .i64 (i : Nat))) := by
  refine ⟨?_, h.ap.setAt h.tbs hi _, fun k cs t z hk h1 h2 => ?_, h.bel.setCell (h.ap.lo i hi) _⟩
  · have := h.tbs.setAt hi (i : Nat)
    rw [show (fun j => if j = i then ((i : Nat) : Int) else if j < i then ((j : Nat) : Int) else at_ j) = (fun j => if j < i + 1 then ((j : Nat) : Int) else at_ j) from funext fun j => by
      by_cases e : j = i
      · subst e; rw [if_pos rfl, if_pos (by omega)]
      · rw [if_neg e]
        by_cases e2 : j < i
        · rw [if_pos e2, if_pos (by omega)]
        · rw [if_neg e2, if_neg (by omega)]] at this
    exact this
  · have hkw := h.keep k cs t z hk h1 h2
    rw [Below.heap_setCell _ _ _ _ (show k ≠ T i from fun e => ?_)]
    · exact hkw
    · obtain ⟨ord, a1, _⟩ := h.tbs.tab i hi
      unfold TabB at a1
      rw [← e, hkw] at a1
      cases a1
      exact h1 rfl

theorem upd_sorted {K : Nat → Nat → V} {ls : Nat → List Nat} {i : Nat} {l : List Nat} : upd (fun j => if j < i then byI (K j) (ls j) else K j) i (byI (K i) l) = (fun j => if j < i + 1 then byI (K j) (if j = i then l else ls j) else K j) := by
  funext j
  by_cases e : j = i
  · subst e
    rw [upd_same, if_pos (by omega), if_pos rfl]
  · rw [upd_ne _ _ e, if_neg e]
    by_cases e2 : j < i
    · rw [if_pos e2, if_pos (by omega)]
    · rw [if_neg e2, if_neg (by omega)]

theorem srt_more {K : Nat → Nat → V} {L : Nat → Nat} {ls : Nat → List Nat} {i : Nat} {l : List Nat} (h : ∀ j, j < i → SortI (K j) (L j) (ls j)) (hl : SortI (K i) (L i) l) : ∀ j, j < i + 1 → SortI (K j) (L j) (if j = i then l else ls j) := fun j hj => by
  by_cases e : j = i
  · subst e; rw [if_pos rfl]; exact hl
  · rw [if_neg e]; exact h j (by omega)

theorem Tbs.congr {w : World} {n : Nat} {T M : Nat → Nat} {at_ at' : Nat → Int} {L : Nat → Nat} {K X K' X' : Nat → Nat → V} (h : Tbs w n T M at_ L K X) (ha : ∀ j, j < n → at_ j = at' j) (hK : ∀ j, j < n → K j = K' j) (hX : ∀ j, j < n → X j = X' j) : Tbs w n T M at' L K' X' := by
  refine ⟨fun j hj => ?_, fun j hj => ?_, h.inj, fun j hj l hl v hv => h.gone j hj l hl v (by rw [hK j hj]; exact hv)⟩
  · rw [← ha j hj, ← hK j hj]; exact h.tab j hj
  · rw [← hK j hj, ← hX j hj]; exact h.map j hj
theorem owns_keep {a b : World} {base t s n : Nat} {v : Value} {xs : List Value} (h : a.ownsRow base t s v n xs) (hk : ∀ (g : Nat) (cur : Array Value), a.heap[g]? = some (.cells cur t (0, 0)) → b.heap[g]? = some (.cells cur t (0, 0))) : b.ownsRow base t s v n xs := by
  refine ⟨h.1, ?_⟩
  rcases h.2 with h2 | ⟨g, cap, cur, hv, hg, hh, r⟩
  · exact Or.inl h2
  · exact Or.inr ⟨g, cap, cur, hv, hg, hk g cur hh, r⟩

theorem Cf2.next {w4 wr w5 : World} {base N i : Nat} {T M : Nat → Nat} {at_ : Nat → Int} {L : Nat → Nat} {K X : Nat → Nat → V} {ls : Nat → List Nat} {l : List Nat} {g cap : Nat} {a : Int} (h : Cf2 w4 wr base N i T M at_ L K X ls) (hi : i < N) (hb : base ≤ w4.heap.size) (ht : TabB (wr.setCell ⟨T i, 0, none⟩ (.int .i64 (i : Nat))) (T i) (M i) a (.slice (some ⟨g, 0, none⟩) (L i) cap)) (hS : SortI (K i) (L i) l) (hO : w5.ownsRow 0 24 4 (.slice (some ⟨g, 0, none⟩) (L i) cap) (L i) (keyCells (keys (byI (K i) l) (L i)))) (ho : Only (fun k => k = g) (wr.setCell ⟨T i, 0, none⟩ (.int .i64 (i : Nat))) w5) :
    Cf2 w4 w5 base N (i + 1) T M at_ L K X (fun j => if j = i then l else ls j) := by
  obtain ⟨h1, h2, h3, h4⟩ := h.setAt hi
  have e1 : (if i < i then byI (K i) (ls i) else K i) = K i := if_neg (Nat.lt_irrefl _)
  have e2 : (if i < i then byI (X i) (ls i) else X i) = X i := if_neg (Nat.lt_irrefl _)
  obtain ⟨hT, hA⟩ := h1.sorted h2 hi ht rfl (ls := l) (by rw [e1]; exact hS) (by rw [e1]; exact hO) ho
  rw [e1, e2, upd_sorted, upd_sorted] at hT
  obtain ⟨_, cur, hc⟩ := h1.keyNe hi ht rfl
  refine ⟨hT, hA, srt_more h.srt hS, fun k cs t z hk q1 q2 => ?_, h4.trans (ho.toBelow (fun k e => by subst e; exact h2.own i _ _ _ hi ht rfl) (Nat.le_trans hb h4.size))⟩
  have hkw := h3 k cs t z hk q1 q2
  rw [ho.block k (blk_lt hkw) (fun e => ?_)]
  · exact hkw
  · subst e
    rw [hc] at hkw
    cases hkw
    exact q2 rfl

theorem Cf2.nextNone {w4 wr : World} {base N i : Nat} {T M : Nat → Nat} {at_ : Nat → Int} {L : Nat → Nat} {K X : Nat → Nat → V} {ls : Nat → List Nat} (h : Cf2 w4 wr base N i T M at_ L K X ls) (hi : i < N) (h0 : L i = 0) :
    Cf2 w4 (wr.setCell ⟨T i, 0, none⟩ (.int .i64 (i : Nat))) base N (i + 1) T M at_ L K X (fun j => if j = i then [] else ls j) := by
  obtain ⟨h1, h2, h3, h4⟩ := h.setAt hi
  have hT := h1.empty h0 (byI (K i) []) (byI (X i) [])
  rw [upd_sorted, upd_sorted] at hT
  exact ⟨hT, h2, srt_more h.srt (by rw [h0]; exact ⟨by simp, by simp [SortW]⟩), h3, h4⟩

set_option maxHeartbeats 8000000 in
set_option maxRecDepth 100000 in
theorem classify_any (m : Nat) (hm : m ≤ 2) (hm0 : 0 < m) (gb : Nat) (G : GrS) (ta : Nat → Option Addr) (cp TB TO : Nat → Nat) (A : Nat → Nat → Option Addr) (C RB RO : Nat → Nat → Nat) (w : World) (HG : Hid (GsAt w m gb G ta cp TB TO A C RB RO)) :
    Calls Tryz.prog 35 #[.slice (some ⟨gb, 0, none⟩) m m] w fun e w' => ((∃ (T M L : Nat → Nat) (K X : Nat → Nat → V) (ls : Nat → List Nat) (f : Nat → Nat) (rv tv : Value) (cb : Nat), e = .returned (.tuple #[.agg #[rv, tv, .slice (some ⟨cb, 0, none⟩) (G.off m) (G.off m)], .bool true]) ∧ Cfd G w w' m T M L K X ls f rv tv cb) ∨ ((∃ q, q < m ∧ ¬ OkG (G.n q) (G.U q) (G.L q) (G.K q) (G.X q)) ∧ e = .returned (.tuple #[.agg #[.slice none 0 0, .slice none 0 0, .slice none 0 0], .bool false]))) ∧ Below w.heap.size w w' := by
  have A2 := alloc2 w (.cells #[.slice none 0 0, .slice none 0 0, .slice none 0 0] 95) (.cells #[.slice none 0 0, .slice none 0 0, .slice none 0 0] 95)
  obtain ⟨w1, hw1⟩ : ∃ w1, w1 = (w.alloc (.cells #[.slice none 0 0, .slice none 0 0, .slice none 0 0] 95)).alloc (.cells #[.slice none 0 0, .slice none 0 0, .slice none 0 0] 95) := ⟨_, rfl⟩
  rw [← hw1] at A2
  have H1 : Hid (Cf1 G w w1 0 (fun _ => 0) (fun _ => 0) (fun _ => 0) (fun _ => 0) (fun _ _ => ⟨0, 0, ⟨#[]⟩, 0⟩) (fun _ _ => ⟨0, 0, ⟨#[]⟩, 0⟩) (.slice none 0 0) (.slice none 0 0)) :=
    ⟨A2.2.1, A2.1, ⟨rfl, Or.inl ⟨rfl, rfl⟩⟩, ⟨rfl, Or.inl ⟨rfl, rfl⟩⟩, ⟨fun j hj => absurd hj (Nat.not_lt_zero _), fun j hj => absurd hj (Nat.not_lt_zero _), fun i j hi => absurd hi (Nat.not_lt_zero _), fun j hj => absurd hj (Nat.not_lt_zero _)⟩, Ap.zero _ _ _ _, ⟨fun p hp => absurd hp (Nat.not_lt_zero _), fun p hp => absurd hp (Nat.not_lt_zero _), fun p hp => absurd hp (Nat.not_lt_zero _), fun p hp => absurd hp (Nat.not_lt_zero _)⟩, A2.2.2.2, by omega⟩
  obtain ⟨iv, hvi, hv0, hv1, hv2⟩ := info_parts Tryz.infoVal
  obtain ⟨it, hti, ht0, ht1, ht2⟩ := info_parts Tryz.info107
  clear A2
  go_enter Tryz.func35, Tryz.ntmps35
  go_wp2
  rw [← hw1]
  clear hw1
  go_loopw [13] (fun ii wr => ∃ (q : Nat) (T M : Nat → Nat) (at_ : Nat → Int) (L : Nat → Nat) (K X : Nat → Nat → V) (rv tv : Value), q ≤ m ∧ ii = .int .i64 (q : Nat) ∧ Hid (Cf1 G w wr q T M at_ L K X rv tv)) (fun ii _ => m - (intOf ii).toNat)
  case atStart => exact ⟨0, _, _, _, _, _, _, _, _, Nat.zero_le _, rfl, H1⟩
  case round =>
    obtain ⟨q, T, M, at_, L, K, X, rv, tv, hq, rfl, HC⟩ := hrel
    clear H1
    by_cases hlt : q < m
    · have g0 := (HC.out.bel.cell (World.block_lt_of_cell? _ _ (HG.out.k q hlt))).trans (HG.out.k q hlt)
      have g1 := (HC.out.bel.cell (World.block_lt_of_cell? _ _ (HG.out.n q hlt))).trans (HG.out.n q hlt)
      have g2 := (HC.out.bel.cell (World.block_lt_of_cell? _ _ (HG.out.s q hlt))).trans (HG.out.s q hlt)
      have g3 := (HC.out.bel.cell (World.block_lt_of_cell? _ _ (HG.out.a q hlt))).trans (HG.out.a q hlt)
      have g4 := (HC.out.bel.cell (World.block_lt_of_cell? _ _ (HG.out.t q hlt))).trans (HG.out.t q hlt)
      obtain ⟨u, HU⟩ : ∃ u, Hid (G.U q = u) := ⟨_, rfl⟩
      obtain ⟨n, HN⟩ : ∃ n, Hid (G.n q = n) := ⟨_, rfl⟩
      rw [HU.out] at g0 g1 g2 g3
      rw [HN.out] at g4
      obtain ⟨tq, htq⟩ : ∃ tq, ta q = tq := ⟨_, rfl⟩
      obtain ⟨cq, hcq⟩ : ∃ cq, cp q = cq := ⟨_, rfl⟩
      rw [htq, hcq] at g4
      obtain ⟨wg, hwg⟩ : ∃ wg, wg = wr.alloc (.cells #[.int .i64 u.k, .int .i64 u.n, .string u.s, .int .i64 u.a, .slice tq n cq] 27) := ⟨_, rfl⟩
      have HBg : Hid (Below wr.heap.size wr wg) := by rw [hwg]; exact (Below.refl _ _).alloc (Nat.le_refl _) _
      have hlk := link_apart (G.U q) (ta q) (G.n q) (cp q) (TB q) (TO q) (A q) (G.L q) (C q) (RB q) (RO q) (G.K q) (G.X q) wg (HG.out.small q hlt).1 (HG.out.small q hlt).2 ((HG.out.tabs q hlt).below (HC.out.bel.trans (HBg.out.mono HC.out.bel.size)))
      rw [HU.out, HN.out, htq, hcq] at hlk
      have hbi : (0 : Int) ≤ (q : Int) ∧ (q : Int) < (m : Int) := by omega
      go_wp2_with fail
      rw [← hwg]
      refine hlk.mono ?_
      clear hlk hwg g0 g1 g2 g3 g4
      rintro e wk ⟨hcase, hbk⟩
      have HBk : Hid (Below wr.heap.size wr wk) := grw HBg.out hbk
      have hsg : wr.heap.size ≤ wg.heap.size := HBg.out.size
      clear hbk HBg
      obtain ⟨b, hb⟩ : ∃ b, wg.heap.size = b := ⟨_, rfl⟩
      rw [hb] at hcase hsg
      clear hb
      have HCk : Hid (Cf1 G w wk q T M at_ L K X rv tv) := HC.out.below HBk.out
      rcases hcase with ⟨hG, rfl, ⟨base, hH⟩, hA⟩ | ⟨hN, rfl⟩
      · obtain ⟨xt, xy, hxv⟩ := ifv_form (tT b) u
        have HXV : Hid (ifv (tT b) u = .iface xt xy) := hxv
        rw [HXV.out]
        clear hxv
        obtain ⟨ra, rc, rfl, _⟩ := owns_form HCk.out.roots
        obtain ⟨va, vc, rfl, _⟩ := owns_form HCk.out.tabs
        obtain ⟨wl, hwl⟩ : ∃ wl, wl = wk.alloc (.cells #[.iface xt xy, .slice (some ⟨b + 2, 0, none⟩) n n] 57) := ⟨_, rfl⟩
        have HBl : Hid (Below wk.heap.size wk wl) := by rw [hwl]; exact (Below.refl _ _).alloc (Nat.le_refl _) _
        have HCl : Hid (Cf1 G w wl q T M at_ L K X (.slice ra q rc) (.slice va (G.off q) vc)) := HCk.out.below HBl.out
        have HHk : Hid (Half wk b (G.n q) (G.n q) base (G.L q) (G.K q) (G.X q)) := by rw [HN.out]; exact hH
        have HAk : Hid (Ap wk b (G.n q) (tT b) (tM b)) := by rw [HN.out]; exact hA
        have HOk : Hid (OkG (G.n q) (G.U q) (G.L q) (G.K q) (G.X q)) := by rw [HN.out, HU.out]; exact hG
        have HLn : Hid (wl.heap[wk.heap.size]? = some (.cells #[.iface xt xy, .slice (some ⟨b + 2, 0, none⟩) n n] 57 (0, 0))) := by rw [hwl]; exact heap_alloc_new _ _
        obtain ⟨c0, c1, c2, cz⟩ := three_at HCl.out.blk
        obtain ⟨l0, l1, lz⟩ := two_at HLn.out
        have hwc : w.heap.size + 1 < wk.heap.size := blk_lt HCk.out.blk
        have hszl : wl.heap.size = wk.heap.size + 1 := by rw [hwl]; simp
        rw [hwl] at c0 c1 l0 l1
        clear hG hH hA
        go_wp2_with (at_builtin; (refine wpList_append_lies _ (by rfl) (.tmp 26) (.tmp 29) 92 (by rfl) (w.heap.size + 2) 54 iv .nilIface 1 16 Tryz.underlying92 hvi hv0 hv1 hv2 (by rfl) (by omega) (.slice ra q rc) q ((List.range q).map fun p => ifv T (sh (G.off p) (G.U p))) (by rfl) (by rw [← hwl]; exact HCl.out.roots.alloc _) ⟨wk.heap.size + 1, 0, none⟩ 1 1 [.iface xt xy] (by rfl) (by rfl) ?c1 ?c2 (by omega) ?c3 ?c4 ?c5 (wk.heap.size + 2) ?c6 ?_))
        case c1 =>
          have := World.news_of_block (heap_alloc_new wl (.cells #[.iface xt xy] 54))
          rw [hszl] at this
          rw [← hwl]
          exact this
        case c2 => intro u hu; simp at hu; subst hu; rfl
        case c3 => unfold maxLen; omega
        case c4 => omega
        case c5 => simp; omega
        case c6 => simp
        intro g cap w3 hown3 hgrow3 _ _
        rw [← hwl] at hgrow3
        obtain ⟨hb3, hb4, hr4, ht4, ho4⟩ := put_root HCl.out.blk (show w.heap.size + 1 < w.heap.size + 2 by omega) HCl.out.roots HCl.out.tabs hgrow3 hown3
        clear hown3 hgrow3 c0 c1 c2 cz l0 l1 lz hwl
        obtain ⟨w4, hw4⟩ : ∃ w4, w4 = w3.setCell ⟨w.heap.size + 1, 0, none⟩ (.slice (some ⟨g, 0, none⟩) (q + 1) cap) := ⟨_, rfl⟩
        rw [← hw4] at hb4 hr4 ht4 ho4
        obtain ⟨c0, c1, c2, cz⟩ := three_at hb3
        obtain ⟨d0, d1, d2, dz⟩ := three_at hb4
        have hrw : ∀ k, (Value.slice ra q rc).ownBlock = some k → k < wr.heap.size := fun k e => by
          obtain ⟨_, _, _, hk⟩ := owns_form HC.out.roots
          exact (hk k e).2
        have HLn4 : Hid (w4.heap[wk.heap.size]? = some (.cells #[.iface xt xy, .slice (some ⟨b + 2, 0, none⟩) n n] 57 (0, 0))) := (ho4.block _ (by omega) (fun e => by
          rcases e with e | e
          · omega
          · have := hrw _ e; have := HBk.out.size; omega)).trans HLn.out
        obtain ⟨l0, l1, lz⟩ := two_at HLn4.out
        have HRow4 : Hid (∀ j, j < n → w4.cell? ⟨b + 2, j, none⟩ = some (ptr (tT b j))) := show ∀ j, _ from fun j hj => by
          have h1 := HHk.out.row.cell (show j < G.n q by rw [HN.out]; exact hj)
          have h2 : b + 2 < wk.heap.size := HHk.out.row.lt
          exact ho4.cell ((HBl.out.cell (p := ⟨b + 2, j, none⟩) h2).trans h1) (fun e => by
            have e : b + 2 = w.heap.size + 1 ∨ (Value.slice ra q rc).ownBlock = some (b + 2) := e
            have := HC.out.size
            rcases e with e | e
            · omega
            · have := hrw _ e; omega)
        have HO4 : Hid (Only (fun k => k = w.heap.size + 1 ∨ (Value.slice ra q rc).ownBlock = some k) wl w4) := ho4
        have HR4 : Hid (w4.ownsRow (w.heap.size + 2) 54 1 (.slice (some ⟨g, 0, none⟩) (q + 1) cap) (q + 1) (((List.range q).map fun p => ifv T (sh (G.off p) (G.U p))) ++ [.iface xt xy])) := hr4
        have HT4 : Hid (w4.ownsRow (w.heap.size + 2) 107 1 (.slice va (G.off q) vc) (G.off q) ((List.range (G.off q)).map fun j => ptr (T j))) := ht4
        have HB4 : Hid (w4.heap[w.heap.size + 1]? = some (.cells #[.slice (some ⟨g, 0, none⟩) (q + 1) cap, .slice va (G.off q) vc, .slice none 0 0] 95 (0, 0))) := hb4
        have hs4 : w.heap.size + 2 ≤ w4.heap.size := by have := HO4.out.size; omega
        have hoff : G.off q + n ≤ 400 := by
          have := HOk.out.len
          rw [HN.out] at this
          have : G.off q ≤ 200 := by
            rcases (show q = 0 ∨ q = 1 by omega) with e | e
            · subst e; exact Nat.zero_le _
            · subst e
              show 0 + G.n 0 ≤ 200
              have := (HC.out.cmb.ok 0 (by omega)).len
              omega
          omega
        clear hb4 hr4 ht4 ho4 hrw hb3
        rw [hw4] at d0 d1 d2 l0 l1
        go_wp2_with (at_builtin; (refine wpList_append_own (by rfl) (.tmp 33) (.tmp 35) 55 (by rfl) (w.heap.size + 2) 107 it (.pointer none) 1 8 Tryz.underlying55 hti ht0 ht1 ht2 (by rfl) (by omega) (.slice va (G.off q) vc) (G.off q) ((List.range (G.off q)).map fun j => ptr (T j)) (by rfl) (by rw [← hw4]; exact HT4.out) ⟨b + 2, 0, none⟩ n n ((List.range n).map fun j => ptr (tT b j)) (by rfl) (by simp) ?c1 ?c2 ?c3 ?c4 ?c5 ?_))
        case c1 => rw [← hw4]; exact news_of_cells HRow4.out
        case c2 =>
          intro u hu
          obtain ⟨j, _, rfl⟩ := List.mem_map.1 hu
          rfl
        case c3 => unfold maxLen; omega
        case c4 => omega
        case c5 => rw [← hw4]; exact hs4
        intro tv' w5 hown5 hgrow5
        rw [← hw4] at hgrow5
        clear c0 c1 c2 cz d0 d1 d2 dz l0 l1 lz hw4
        obtain ⟨oa, oc, rfl, _⟩ := owns_form hown5
        obtain ⟨hb5, hb6, hr6, ht6, ho6⟩ := put_tabs HB4.out (show w.heap.size + 1 < w.heap.size + 2 by omega) HR4.out (fun g' hg' => owns_type HT4.out hg') hgrow5 hown5
        obtain ⟨c0, c1, c2, cz⟩ := three_at hb5
        have HC6 : Hid _ := HC.out.next HBk.out HHk.out HAk.out hsg HOk.out ((Only.below HBl.out).trans ((HO4.out.mono (fun k _ e => by rcases e with e | e; exact Or.inl e; exact Or.inr (Or.inl e))).trans (ho6.mono (fun k _ e => by rcases e with e | e; exact Or.inl e; exact Or.inr (Or.inr e))))) hb6 (by rw [HU.out, HXV.out]; exact hr6) (by rw [HN.out]; exact ht6)
        clear hb5 hb6 hr6 ht6 ho6 hown5 hgrow5
        go_wp2
        go_roundw
        case rel => exact ⟨q + 1, _, _, _, _, _, _, _, _, by omega, by go_num, HC6⟩
        case measure => simp [intOf]; omega
      · have HNo : Hid (∃ q, q < m ∧ ¬ OkG (G.n q) (G.U q) (G.L q) (G.K q) (G.X q)) := ⟨q, hlt, by rw [HN.out, HU.out]; exact hN⟩
        obtain ⟨wl, hwl⟩ : ∃ wl, wl = wk.alloc (.cells #[.nilIface, .slice none 0 0] 57) := ⟨_, rfl⟩
        have HBl : Hid (Below wk.heap.size wk wl) := by rw [hwl]; exact (Below.refl _ _).alloc (Nat.le_refl _) _
        have HCl : Hid (Cf1 G w wl q T M at_ L K X rv tv) := HCk.out.below HBl.out
        obtain ⟨c0, c1, c2, cz⟩ := three_at HCl.out.res
        rw [hwl] at c0 c1 c2 cz
        go_wp2
        rw [← hwl]
        have R1 := three_put HCl.out.res (.slice none 0 0) (.slice none 0 0) (.slice none 0 0)
        obtain ⟨q0, q1, q2, _⟩ := three_at R1
        refine bodyPost_ret (v := .tuple #[.agg #[.slice none 0 0, .slice none 0 0, .slice none 0 0], .bool false]) (by simp [results, Tryz.results35, go_sem, q0, q1, q2]) rfl ⟨Or.inr ⟨HNo.out, rfl⟩, ?_⟩
        exact ((HCl.out.bel.setCell (Nat.le_refl _) _).setCell (Nat.le_refl _) _).setCell (Nat.le_refl _) _
    · obtain rfl : q = m := by omega
      obtain ⟨w4, hw4⟩ : ∃ w4, w4 = wr := ⟨_, rfl⟩
      rw [← hw4] at HC ⊢
      clear hw4
      obtain ⟨N, HN⟩ : ∃ N, Hid (G.off q = N) := ⟨_, rfl⟩
      obtain ⟨va, vc, rfl, _⟩ := owns_form HC.out.tabs
      obtain ⟨ra, rc, rfl, _⟩ := owns_form HC.out.roots
      have hN4 : N ≤ 400 := by
        rw [← HN.out]
        rcases (show q = 1 ∨ q = 2 by omega) with e | e
        · subst e
          show 0 + G.n 0 ≤ 400
          have := (HC.out.cmb.ok 0 (by omega)).len
          omega
        · subst e
          show 0 + G.n 0 + G.n 1 ≤ 400
          have := (HC.out.cmb.ok 0 (by omega)).len
          have := (HC.out.cmb.ok 1 (by omega)).len
          omega
      have HTb : Hid (∃ tb, (0 < N → va = some ⟨tb, 0, none⟩) ∧ (0 < N → ∃ cur, w4.heap[tb]? = some (.cells cur 107 (0, 0)) ∧ ∀ j, j < N → cur[j]? = some (ptr (T j)))) := by
        have ht := HC.out.tabs
        rw [HN.out] at ht
        rcases ht.2 with ⟨_, h0⟩ | ⟨g, cap, cur, hv, _, hh, hle, _, hcs, htk⟩
        · exact ⟨0, fun h => by omega, fun h => by omega⟩
        · refine ⟨g, fun _ => by cases hv; rfl, fun _ => ⟨cur, hh, fun j hj => ?_⟩⟩
          have h1 : (cur.toList.take (N * 1))[j]? = some (ptr (T j)) := by rw [htk]; simp [hj]
          rw [List.getElem?_take, if_pos (by omega)] at h1
          simpa using h1
      obtain ⟨tb, hva, hrow⟩ := HTb.out
      have HRow : Hid (0 < N → ∃ cur, w4.heap[tb]? = some (.cells cur 107 (0, 0)) ∧ ∀ j, j < N → cur[j]? = some (ptr (T j))) := hrow
      obtain ⟨c0, c1, c2, cz⟩ := three_at HC.out.blk
      rw [HN.out] at c1
      clear hrow HTb
      go_wp2
      go_loopw [42] (fun ii wr => ∃ (i : Nat) (ls : Nat → List Nat), i ≤ N ∧ ii = .int .i64 (i : Nat) ∧ Hid (Cf2 w4 wr (w.heap.size + 2) N i T M at_ L K X ls)) (fun ii _ => N - (intOf ii).toNat)
      case atStart => exact ⟨0, fun _ => [], Nat.zero_le _, rfl, show Cf2 _ _ _ _ _ _ _ _ _ _ _ _ from ⟨by simpa [HN.out] using HC.out.tbs, by have := HC.out.ap; rw [HN.out] at this; exact this, fun j hj => absurd hj (Nat.not_lt_zero _), fun _ _ _ _ h _ _ => h, Below.refl _ _⟩⟩
      case round =>
        obtain ⟨i, ls, hi, rfl, HF⟩ := hrel
        clear c0 c1 c2 cz
        have hs4 : w.heap.size + 2 ≤ w4.heap.size := HC.out.size
        by_cases hlt : i < N
        · obtain rfl := hva (by omega)
          obtain ⟨cur, hcur, hcc⟩ := HRow.out (by omega)
          have hkb := HF.out.keep tb cur _ _ hcur (by decide) (by decide)
          have p0 : wr.cell? ⟨tb, i, none⟩ = some (ptr (T i)) := by simp [World.cell?, hkb, hcc i hlt]
          obtain ⟨h1, _, _, _⟩ := HF.out.setAt hlt
          obtain ⟨ord0, a1, _⟩ := HF.out.tbs.tab i hlt
          obtain ⟨t0, _, _, tz⟩ := a1.cells
          obtain ⟨ord, b1, b2⟩ := h1.tab i hlt
          simp only [Nat.lt_irrefl, if_false] at b2
          obtain ⟨_, _, s2, _⟩ := b1.cells
          have hKi := (HC.out.cmb.key i (by rw [HN.out]; exact hlt))
          have hbi : (0 : Int) ≤ (i : Int) ∧ (i : Int) < (N : Int) := by omega
          rcases b2.2 with ⟨rfl, h0⟩ | ⟨g, cap, cur', rfl, _⟩
          · have HF2 : Hid _ := HF.out.nextNone hlt h0
            have hsn := sort_none (.func (.func 72) #[] #[]) (wr.setCell ⟨T i, 0, none⟩ (.int .i64 (i : Nat)))
            clear a1 b1 b2 h1 hkb hcur hcc
            go_wp2_with fail
            refine hsn.mono ?_
            rintro e w5 ⟨rfl, rfl⟩
            clear p0 t0 tz s2 hsn
            go_wp2
            go_roundw
            case rel => exact ⟨i + 1, _, by omega, by go_num, HF2⟩
            case measure => simp [intOf]; omega
          · have hss := sort_some 0 (L i) g cap (K i) (wr.setCell ⟨T i, 0, none⟩ (.int .i64 (i : Nat))) (by omega) hKi.2 b2
            have HB1 : Hid (TabB (wr.setCell ⟨T i, 0, none⟩ (.int .i64 (i : Nat))) (T i) (M i) _ (.slice (some ⟨g, 0, none⟩) (L i) cap)) := b1
            clear a1 b1 b2 h1 hkb hcur hcc
            go_wp2_with fail
            refine hss.mono ?_
            rintro e w5 ⟨rfl, l, hS, hO, ho⟩
            have HF2 : Hid _ := HF.out.next hlt hs4 HB1.out hS hO ho
            clear p0 t0 tz s2 hss hS hO ho
            go_wp2
            go_roundw
            case rel => exact ⟨i + 1, _, by omega, by go_num, HF2⟩
            case measure => simp [intOf]; omega
        · obtain rfl : i = N := by omega
          have HTN : Hid (Tbs wr i T M (fun j => (j : Nat)) L (sK K ls) (sK X ls)) := HF.out.tbs.congr (fun j hj => if_pos hj) (fun j hj => if_pos hj) (fun j hj => if_pos hj)
          have HGd : Hid (Good i L (sK X ls)) := show Good _ _ _ from fun r hr c hc => by
            have hg := HC.out.cmb.good
            rw [HN.out] at hg
            exact hg r hr _ ((HF.out.srt r hr).lt hc)
          have HBk := HF.out.keep _ _ _ _ HC.out.blk (by decide) (by decide)
          have HBr := HF.out.keep _ _ _ _ HC.out.res (by decide) (by decide)
          rw [HN.out] at HBk
          have hcl := classesOf_any i T M L (sK K ls) (sK X ls) va tb vc wr hN4 (show ∀ r, _ from fun r hr => (HC.out.cmb.key r (by rw [HN.out]; exact hr)).1) HGd hva (show ∀ j, _ from fun j hj => by
            obtain ⟨cur, hcur, hcc⟩ := HRow.out (by omega)
            have hkb := HF.out.keep tb cur _ _ hcur (by decide) (by decide)
            simp [World.cell?, hkb, hcc j hj]) HTN
          obtain ⟨c0, c1, c2, cz⟩ := three_at HBk
          go_wp2_with fail
          refine hcl.mono ?_
          clear hcl c0 c1 c2 cz
          rintro e w5 ⟨⟨g, f, rfl, hge, hrow, his⟩, hb5⟩
          have HBk5 := blkB HBk hb5
          have HBr5 := blkB HBr hb5
          have HBk6 : (w5.setCell ⟨w.heap.size + 1, 2, none⟩ (.slice (some ⟨g, 0, none⟩) i i)).heap[w.heap.size + 1]? = some (.cells #[.slice ra q rc, .slice va i vc, .slice (some ⟨g, 0, none⟩) i i] 95 (0, 0)) := by
            simp [World.setCell, Array.getElem?_modify, HBk5]
          have HBr6 : (w5.setCell ⟨w.heap.size + 1, 2, none⟩ (.slice (some ⟨g, 0, none⟩) i i)).heap[w.heap.size]? = some (.cells #[.slice none 0 0, .slice none 0 0, .slice none 0 0] 95 (0, 0)) := by
            rw [Below.heap_setCell _ _ _ _ (show w.heap.size ≠ w.heap.size + 1 by omega)]
            exact HBr5
          obtain ⟨c0, c1, c2, cz⟩ := three_at HBk5
          obtain ⟨d0, d1, d2, dz⟩ := three_at HBk6
          obtain ⟨r0, r1, r2, rz⟩ := three_at HBr6
          have HIs : Hid (IsCls i L (sK K ls) (sK X ls) f) := his
          have HRw : Hid (w5.rowIs g 3 i (fun i => .int .i64 (f i : Nat))) := hrow
          have HB5 : Hid (Below wr.heap.size wr w5) := hb5
          have hg4 : w4.heap.size ≤ g := Nat.le_trans HF.out.bel.size hge
          clear his hrow hb5 HBk HBr HBr5 HBk5
          go_wp2
          have R1 := three_put HBr6 (.slice ra q rc) (.slice va i vc) (.slice (some ⟨g, 0, none⟩) i i)
          obtain ⟨q0, q1, q2, _⟩ := three_at R1
          refine bodyPost_ret (v := .tuple #[.agg #[.slice ra q rc, .slice va i vc, .slice (some ⟨g, 0, none⟩) i i], .bool true]) (by simp [results, Tryz.results35, go_sem, q0, q1, q2]) rfl ?_
          obtain ⟨w9, hw9⟩ : ∃ w9, w9 = (((w5.setCell ⟨w.heap.size + 1, 2, none⟩ (.slice (some ⟨g, 0, none⟩) i i)).setCell ⟨w.heap.size, 0, none⟩ (.slice ra q rc)).setCell ⟨w.heap.size, 1, none⟩ (.slice va i vc)).setCell ⟨w.heap.size, 2, none⟩ (.slice (some ⟨g, 0, none⟩) i i) := ⟨_, rfl⟩
          have ho9 : Only (fun k => k = w.heap.size + 1 ∨ k = w.heap.size) w5 w9 := by
            rw [hw9]
            exact ((((Only.refl _ w5).set (p := ⟨w.heap.size + 1, 2, none⟩) (Or.inl rfl) _).set (p := ⟨w.heap.size, 0, none⟩) (Or.inr rfl) _).set (p := ⟨w.heap.size, 1, none⟩) (Or.inr rfl) _).set (p := ⟨w.heap.size, 2, none⟩) (Or.inr rfl) _
          rw [← hw9]
          clear hw9 R1 q0 q1 q2 c0 c1 c2 cz d0 d1 d2 dz r0 r1 r2 rz HBk6 HBr6
          have hk5 : ∀ (k : Nat) (cs : Array Value) (t : TypeId), w4.heap[k]? = some (.cells cs t (0, 0)) → t ≠ 121 → t ≠ 24 → w5.heap[k]? = some (.cells cs t (0, 0)) := fun k cs t hk h1 h2 => blkB (HF.out.keep k cs t _ hk h1 h2) HB5.out
          have HT5 := HTN.out.below HB5.out
          obtain ⟨hT9, hS9⟩ := HT5.onlyT ho9 (fun k _ e => by
            rcases e with e | e
            · subst e; exact ⟨_, _, _, hk5 _ _ _ HC.out.blk (by decide) (by decide), by decide, by decide⟩
            · subst e; exact ⟨_, _, _, hk5 _ _ _ HC.out.res (by decide) (by decide), by decide, by decide⟩)
          have hro := HC.out.roots
          have hta := HC.out.tabs
          have far : ∀ {t v n xs}, w5.ownsRow (w.heap.size + 2) t 1 v n xs → w9.ownsRow (w.heap.size + 2) t 1 v n xs := fun h => ho9.ownsB h (fun g' hg' e => by
            have := (owns_type h hg').1
            rcases e with e | e <;> omega)
          have hN := HN.out
          refine ⟨Or.inl ⟨T, M, L, K, X, ls, f, .slice ra q rc, .slice va i vc, g, by rw [hN], ?_⟩, ?_⟩
          · have ap5 := (HF.out.ap.same (fun j hj => HB5.out.block _ (HTN.out.lt hj))).same hS9
            refine ⟨far (owns_keep hro (fun g' cur h => hk5 g' cur _ h (by decide) (by decide))), ?_, ?_, ?_, ?_, ?_, ?_, ?_, HC.out.cmb⟩
            · have h5 := far (owns_keep hta (fun g' cur h => hk5 g' cur _ h (by decide) (by decide)))
              rw [hN] at h5
              rw [hN]
              exact h5
            · rw [hN]
              refine HRw.out.of_block (ho9.block _ HRw.out.lt (fun e => ?_))
              rcases e with e | e <;> omega
            · omega
            · rw [hN]; exact hT9
            · rw [hN]; exact ap5
            · rw [hN]; exact HF.out.srt
            · rw [hN]; exact HIs.out
          · exact (HC.out.bel.trans (HF.out.bel.mono (by omega))).trans ((HB5.out.mono (Nat.le_trans HC.out.bel.size HF.out.bel.size)).trans (ho9.toBelow (fun k e => by rcases e with e | e <;> omega) (by have := HB5.out.size; have := HF.out.bel.size; omega)))

end Go.Proofs.YtgflalfiopnmnaaGreatDoor
