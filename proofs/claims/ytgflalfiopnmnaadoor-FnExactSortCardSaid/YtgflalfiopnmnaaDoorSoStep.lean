import Derived.Test.YtgflalfiopnmnaaDoorSoMerged
import Derived.Laws.CopyOwn
namespace Go.Proofs.YtgflalfiopnmnaaDoor
open Go.RowKit Rk So

/-- A copy into a row that is known whole, as a step of a region that draws its order. -/
theorem step_copy_row {P : Program} {ops : Array Oper} {o : Oper} {a : Act} {w : World} {K : Act → World → Prop} {Q : Exit → Act → World → Prop} {E : Prop} (hgd : o.guard = none) (d s : Operand) (dT sT : TypeId)
    (ho : o.op = .call { callee := .builtin .copy, args := #[d, s], argTypes := #[dT, sT] }) (elem : TypeId) (hu : P.underlying dT = some (.slice elem)) (hsz : (P.info? elem).map (·.size) = some 1)
    (g off dLen dCap : Nat) (ad : Addr) (sLen sCap : Nat) (hd : a.eval d = .slice (some ⟨g, off, none⟩) dLen dCap) (hs : a.eval s = .slice (some ad) sLen sCap)
    (cur : Array Value) (t : TypeId) (hg : w.heap[g]? = some (.cells cur t (0, 0))) (cs : List Value) (hn : cs.length = Nat.min sLen dLen)
    (hsrc : ∀ j v, cs[j]? = some v → w.cell? (ad.add j) = some v) (hfit : off + cs.length ≤ cur.size) (h1 : ∀ v ∈ cs, v.oneCell' = true)
    (h : K (a.put o.dst (goInt cs.length)) (w.setRow g (cur.toList.take off ++ cs ++ cur.toList.drop (off + cs.length)).toArray)) :
    if Region.wanted o (yielded ops a.tmps) = true then Oper.wp P o a w K Q else E := by
  have hw : Region.wanted o (yielded ops a.tmps) = true := by simp [Region.wanted, hgd]
  rw [if_pos hw]
  have hrun := run_copy_row (P := P) w dT sT o.type elem g off dLen dCap ad sLen sCap cur t cs hu hsz hg hn hsrc hfit h1
  unfold Oper.wp
  simp [execOp, ho, resolve, invoke, builtin, hd, hs, hrun, Result.andThen]
  have h' : K (a.put o.dst (goInt cs.length)) (w.setRow g (cur.toList.take off ++ (cs ++ cur.toList.drop (off + cs.length))).toArray) := by simpa using h
  first | exact h' | exact Or.inl h'

/-- What stands while a sort goes on: the row, the boxes, the result's cells, the error's cell. -/
structure SoS (w0 w : World) (S base K R Pb Qb D Eb n : Nat) (hd : Value) (q : List (Nat × Nat)) (o : List Nat) : Prop where
  inv : Inv w0 w S base hd q
  kb : w.heap[K]? = some (.cells #[.func (.func 26) #[.pointer (some ⟨S, 0, none⟩)] #[]] 47 (0, 0))
  pb : w.heap[Pb]? = some (.cells #[.slice (some ⟨R, 0, none⟩) n n] 25 (0, 0))
  qb : w.heap[Qb]? = some (.cells #[.func (.func 43) #[] #[.pointer (some ⟨K, 0, none⟩)]] 69 (0, 0))
  row : w.heap[R]? = some (.cells (ints o).toArray 3 (0, 0))
  db : w.heap[D]? = some (.cells #[.int .i64 0, .slice none 0 0, .slice none 0 0] 28 (0, 0))
  eb : w.heap[Eb]? = some (.cells #[.nilIface] 45 (0, 0))
  len : o.length = n
  lt : ∀ z ∈ o, z < n
  r0 : w0.heap.size ≤ R

theorem ne_of_types {w : World} {a b : Nat} {c d : Array Value} {t u : TypeId} {m k : Nat × Nat} (ha : w.heap[a]? = some (.cells c t m)) (hb : w.heap[b]? = some (.cells d u k)) (h : t ≠ u) : a ≠ b := by
  rintro rfl
  rw [ha] at hb
  cases hb
  exact h rfl

theorem SoS.fr {w0 w w' : World} {S base K R Pb Qb D Eb n : Nat} {hd : Value} {q q' : List (Nat × Nat)} {o : List Nat} (h : SoS w0 w S base K R Pb Qb D Eb n hd q o) (hf : Fr S base w w') (hi : Inv w0 w' S base hd q') : SoS w0 w' S base K R Pb Qb D Eb n hd q' o := by
  obtain ⟨v, hv, _⟩ := h.inv.st
  exact ⟨hi, hf.keep h.kb (ne_of_types h.kb hv (by decide)) (by decide), hf.keep h.pb (ne_of_types h.pb hv (by decide)) (by decide), hf.keep h.qb (ne_of_types h.qb hv (by decide)) (by decide), hf.keep h.row (ne_of_types h.row hv (by decide)) (by decide),
    hf.keep h.db (ne_of_types h.db hv (by decide)) (by decide), hf.keep h.eb (ne_of_types h.eb hv (by decide)) (by decide), h.len, h.lt, h.r0⟩

theorem Inv.setRow {w0 w : World} {S base : Nat} {hd : Value} {q : List (Nat × Nat)} (h : Inv w0 w S base hd q) {k : Nat} {c : Array Value} {m : Nat × Nat} (hk : w.heap[k]? = some (.cells c 3 m)) (hk0 : w0.heap.size ≤ k) (cs : Array Value) : Inv w0 (w.setRow k cs) S base hd q := by
  obtain ⟨v, hv, ho⟩ := h.st
  have hS := ne_of_types hv hk (by decide)
  refine ⟨below_setRow h.bel hk0 cs, h.le, ⟨v, by rw [setRow_other _ _ _ _ hS]; exact hv, ho.1, ?_⟩, h.lt, by simpa [World.setRow] using h.sz⟩
  rcases ho.2 with h2 | ⟨g, cap, cur, e1, e2, hh, r⟩
  · exact Or.inl h2
  · exact Or.inr ⟨g, cap, cur, e1, e2, by rw [setRow_other _ _ _ _ (ne_of_types hh hk (by decide))]; exact hh, r⟩

theorem SoS.copy {w0 w : World} {S base K R Pb Qb D Eb n : Nat} {hd : Value} {q : List (Nat × Nat)} {o o' : List Nat} (h : SoS w0 w S base K R Pb Qb D Eb n hd q o) (hl : o'.length = n) (hlt : ∀ z ∈ o', z < n) {cs : Array Value} (hc : cs = (ints o').toArray) : SoS w0 (w.setRow R cs) S base K R Pb Qb D Eb n hd q o' := by
  subst hc
  have other : ∀ {k : Nat} {c : Array Value} {t : TypeId} {m : Nat × Nat}, w.heap[k]? = some (.cells c t m) → t ≠ 3 → (w.setRow R (ints o').toArray).heap[k]? = some (.cells c t m) := fun hk ht => by
    rw [setRow_other _ _ _ _ (ne_of_types hk h.row ht)]; exact hk
  exact ⟨h.inv.setRow h.row h.r0 _, other h.kb (by decide), other h.pb (by decide), other h.qb (by decide), setRow_heap _ _ _ _ _ _ h.row, other h.db (by decide), other h.eb (by decide), hl, hlt, h.r0⟩

theorem rowIs_ints {w : World} {R n : Nat} {o : List Nat} (h : w.heap[R]? = some (.cells (ints o).toArray 3 (0, 0))) (hn : o.length = n) : w.rowIs R 3 n (fun j => .int .i64 (o.getD j 0 : Nat)) :=
  ⟨_, h, by simp [ints, hn], fun i hi => by simp [ints, List.getD, List.getElem?_eq_getElem (show i < o.length by omega)]⟩

theorem run_cut (R f e n : Nat) (hf : f ≤ e) (he : e ≤ n) (hn : f < n) (w : World) :
    (Instr.slice 25 (.slice (some ⟨R, 0, none⟩) n n) (some (.int .i64 (f : Nat))) (some (.int .i64 (e : Nat))) none).run Tryd.prog w = .ok (.slice (some ⟨R, f, none⟩) (e - f) (n - f)) w := by
  have hs : (sizeOf (Tryd.prog.elem 25)).run Tryd.prog w = .ok 1 w := by kernel_rfl
  rw [run_slice_lh (P := Tryd.prog) w 25 _ _ _ (by kernel_rfl) .i64 .i64 _ _ (by omega) (by omega) (by omega), hs]
  simp only [Result.andThen, sliced, Int.toNat_natCast]
  rw [if_neg (by omega)]
  simp [Addr.add]
  intro h0
  omega

theorem seg_get {o : List Nat} {f e i x : Nat} (h : (seg o f e)[i]? = some x) : o[f + i]? = some x := by
  unfold seg at h
  rw [List.getElem?_take] at h
  split at h
  · rwa [List.getElem?_drop] at h
  · cases h

end Go.Proofs.YtgflalfiopnmnaaDoor
