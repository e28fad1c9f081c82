import Derived.Test.YtgflalfiopnmnaaGreatDoorM0
import Derived.Test.YtgflalfiopnmnaaGreatDoorM22
import Derived.Test.YtgflalfiopnmnaaGreatDoorM11
import Derived.Test.YtgflalfiopnmnaaGreatDoorM9
import Derived.Test.YtgflalfiopnmnaaGreatDoorM19
namespace Go.Proofs.YtgflalfiopnmnaaGreatDoor
open Go.RowKit Vl Aw

structure Jr (w0 W : World) (n m : Nat) (T M : Nat → Nat) (L : Nat → Nat) (K X : Nat → Nat → V) (L0 : Nat → Nat) (K0 X0 : Nat → Nat → V) (L1 : Nat → Nat) (K1 X1 : Nat → Nat → V) (f : Nat → Nat) (r : Aw.E) (sB sm cb base b4 b7 bx l D : Nat) (rv tv : Value) (R0 : Loop) (jj : Nat) (q : List Aw.E) (SB : Nat → Nat) : Prop where
  rch : Aw.IReach (Aw.sysOf n L0 K0 X0 L1 K1 X1 f) r jj q
  sea : Sea W n m T sB sm cb base rv tv jj q SB
  st : St w0 W n m T M L K X f sB cb b4 b7 bx l D R0

structure Jd (w0 W : World) (n : Nat) (L0 : Nat → Nat) (K0 X0 : Nat → Nat → V) (L1 : Nat → Nat) (K1 X1 : Nat → Nat → V) (f : Nat → Nat) (r : Aw.E) (b4 D : Nat) (v : Value) (ans : List V) : Prop where
  done : Aw.IDone (Aw.sysOf n L0 K0 X0 L1 K1 X1 f) r ans
  c4 : W.heap[b4]? = some (.cells #[v] 42 (0, 0))
  own : W.ownsRow w0.heap.size 24 4 v ans.length (keyCells ans)
  dfr : W.heap[D]? = some (.deferred (some []))
  bel : Below w0.heap.size w0 W

theorem Jd.put {w0 W : World} {n : Nat} {L0 : Nat → Nat} {K0 X0 : Nat → Nat → V} {L1 : Nat → Nat} {K1 X1 : Nat → Nat → V} {f : Nat → Nat} {r : Aw.E} {b4 D l : Nat} {v : Value} {ans : List V} {R0 : Loop} (h : Jd w0 W n L0 K0 X0 L1 K1 X1 f r b4 D v ans) (hr : W.heap[l]? = some (.loop R0)) (hl : w0.heap.size ≤ l) (R1 : Loop) : Jd w0 (W.putObj l (.loop R1)) n L0 K0 X0 L1 K1 X1 f r b4 D v ans := by
  have ho := only_put W l (.loop R1)
  refine ⟨h.done, (ho.block b4 (blk_lt h.c4) (fun e => ?_)).trans h.c4, Only.ownsB ho h.own (fun g hg e => ?_), (ho.block D (blk_lt h.dfr) (fun e => ?_)).trans h.dfr, ⟨h.bel.os, h.bel.tape, h.bel.output, Nat.le_trans h.bel.size ho.size, fun k hk' => (ho.block k (Nat.lt_of_lt_of_le hk' h.bel.size) (fun e => by omega)).trans (h.bel.block k hk')⟩⟩
  · have := h.c4; rw [e, hr] at this; cases this
  · obtain ⟨_, cur, hc⟩ := owns_type h.own hg
    rw [e, hr] at hc; cases hc
  · have := h.dfr; rw [e, hr] at this; cases this

set_option maxHeartbeats 4000000 in
set_option maxRecDepth 100000 in
theorem apLoop (n m : Nat) (T M : Nat → Nat) (L : Nat → Nat) (K X : Nat → Nat → V) (L0 : Nat → Nat) (K0 X0 : Nat → Nat → V) (L1 : Nat → Nat) (K1 X1 : Nat → Nat → V) (ls : Nat → List Nat) (f : Nat → Nat) (u u' : V) (sB sm cb base b4 b7 bx : Nat) (rv tv : Value) (SB0 : Nat → Nat) (w0 w : World) {g : Operand} {assign body : Code} {Q : Exit → Act → World → Prop} {a : Act}
    (hok0 : OkG n u L0 K0 X0) (hok1 : OkG m u' L1 K1 X1) (HJ : Jnd n m L K X L0 K0 X0 L1 K1 X1 ls) (HF : ∀ i, i < n + m → f i ≤ i) (HM : ∀ j, j < n + m → M j ≠ sm) (hlo : w0.heap.size ≤ sB ∧ w0.heap.size ≤ sm ∧ w0.heap.size ≤ w.heap.size) (hb4 : w0.heap.size ≤ b4)
    (h0 : ∀ R0, Jr w0 ((w.alloc (.deferred (some []))).alloc (.loop R0)) n m T M L K X L0 K0 X0 L1 K1 X1 f ⟨u, u', []⟩ sB sm cb base b4 b7 bx (w.heap.size + 1) w.heap.size rv tv R0 0 ((Aw.sysOf n L0 K0 X0 L1 K1 X1 f).iadd [] ⟨u, u', []⟩) SB0)
    (hg : a.eval g = .func (.func 76) #[] #[ptr bx])
    (hassign : ∀ (l s : Nat) (W : World) (K : Act → World → Prop), K { tmps := (a.tmps.setIfInBounds 41 (ptr s)).setIfInBounds 8 (ptr s), defers := [] } W → assign.wpIn (Fence.wide.inRound l) 1 Tryz.prog (Exit.then K (fun _ _ _ => False)) { tmps := (#[41].zip #[ptr s]).foldl (fun t (p, v) => t.setIfInBounds p v) a.tmps, defers := [] } W)
    (hbody : (Tryz.f15.body.bind rfBody) = some body)
    (htm : ∀ s, ∃ x0 x1 x2 x3 x5 x6 x9 x10 x11 x12 x13 x14 x15 x16 x17 x18 x19 x20 x21 x22 x23 x24 x25 x26 x27 x28 x29 x30 x31 x32 x33 x34 x35 x36 x37 x38 x39 x40 x41 x42 x43 x44 x45 x46 x47 x48 x49 x50 x51 x52 x53 x54 x55 x56 x57 x58 x59 x60 x61 x62 x63 x64 x65 x66 x67 x68 x69 x70 x71 x72 x73 x74 x75 x76 x77 x78 x79 x80 x81 x82 x83 x84 x85 x86 x87 x88 x89 x90 x91 x92 x93 x94, ({ tmps := (a.tmps.setIfInBounds 41 (ptr s)).setIfInBounds 8 (ptr s), defers := [] } : Act) = { tmps := #[x0, x1, x2, x3, ptr b4, x5, x6, ptr b7, ptr s, x9, x10, x11, x12, x13, x14, x15, x16, x17, x18, x19, x20, x21, x22, x23, x24, x25, x26, x27, x28, x29, x30, x31, x32, x33, x34, x35, x36, x37, x38, x39, x40, x41, x42, x43, x44, x45, x46, x47, x48, x49, x50, x51, x52, x53, x54, x55, x56, x57, x58, x59, x60, x61, x62, x63, x64, x65, x66, x67, x68, x69, x70, x71, x72, x73, x74, x75, x76, x77, x78, x79, x80, x81, x82, x83, x84, x85, x86, x87, x88, x89, x90, x91, x92, x93, x94], defers := [] })
    (hdone : ∀ W, Jd w0 W n L0 K0 X0 L1 K1 X1 f ⟨u, u', []⟩ b4 w.heap.size (.slice none 0 0) [] → Q .normal { a with defers := { target := .collected w.heap.size, args := #[] } :: a.defers } W)
    (hstop : ∀ W v ans, Jd w0 W n L0 K0 X0 L1 K1 X1 f ⟨u, u', []⟩ b4 w.heap.size v ans → Code.ret.wpIn Fence.wide 3 Tryz.prog Q { a with defers := { target := .collected w.heap.size, args := #[] } :: a.defers } W) :
    (Code.rangeFunc g #[41] assign body).wpIn Fence.wide 3 Tryz.prog Q a w := by
  refine wpIn_rangeFunc ?_
  intro fn hfn
  have hNx := Aw.sys_next (f := f) hok0 hok1
  have hIx := Aw.sys_ix n m L0 K0 X0 L1 K1 X1 f
  have hnm : n * m ≤ 200 * 200 := Nat.mul_le_mul hok0.len hok1.len
  have hgr : goodV n m u u' := ⟨hok0.root, hok1.root⟩
  have hwd : ∀ {jj q}, Aw.IReach (Aw.sysOf n L0 K0 X0 L1 K1 X1 f) ⟨u, u', []⟩ jj q → Aw.IWide (Aw.sysOf n L0 K0 X0 L1 K1 X1 f) (goodV n m) (fun x y => x.a.toNat * m + y.a.toNat) q jj := fun h => h.wide hNx hIx hgr rfl
  have hlive : ∀ {jj q}, Aw.IReach (Aw.sysOf n L0 K0 X0 L1 K1 X1 f) ⟨u, u', []⟩ jj q → ∀ x ∈ q, isV n x.a = true ∧ isV m x.b = true ∧ x.a.k = 4 ∧ x.b.k = 4 := fun h x hx => by
    have h1 := (hwd h).wide.good x hx
    have h2 := (hwd h).live x hx
    unfold Aw.Sys.live Aw.Sys.cp at h2
    have h3 : ((x.a.k == 4 && x.b.k == 4) && _) = true := h2
    simp only [Bool.and_eq_true, beq_iff_eq] at h3
    exact ⟨h1.1, h1.2, h3.1.1, h3.1.2⟩
  obtain ⟨rec, hrec⟩ : ∃ rec : LoopState → Option Code → Loop, rec = fun st pe => { state := st, pending := pe, fn, tmps := a.tmps, params := #[41], assign, body, defers := w.heap.size } := ⟨_, rfl⟩
  have h1 := h0 (rec .ready none)
  obtain ⟨W1, hW1⟩ : ∃ W1, (w.alloc (.deferred (some []))).alloc (.loop (rec .ready none)) = W1 := ⟨_, rfl⟩
  rw [hW1] at h1
  obtain ⟨l, hl⟩ : ∃ l, w.heap.size + 1 = l := ⟨_, rfl⟩
  have hl0 : w0.heap.size ≤ l := by omega
  refine ⟨w.heap.size + 1, [{ target := .collected w.heap.size, args := #[] }], W1, { target := .fn (.func 76) #[ptr bx], args := #[.func (.yield (w.heap.size + 1)) #[] #[]] }, W1, 76,
    #[.func (.yield (w.heap.size + 1)) #[] #[]] ++ #[ptr bx], W1, ?_, ?_, ?_, ?_, fun _ => by omega, ?_⟩
  · rw [← hW1, hrec]; exact run_enterLoop_outer _ _ _ _ _
  · simp only [resolve, hg]
    simp [go_sem]
  · intro f' hf'; trivial
  · simp [invoke, go_sem]
  · rw [hl] at h1 ⊢
    refine (all1_any 2 l bx sB base (n * m) rv tv (.slice (some ⟨cb, 0, none⟩) (n + m) (n + m)) (.map (some sm))
      (fun jj W => ∃ q SB, Jr w0 W n m T M L K X L0 K0 X0 L1 K1 X1 f ⟨u, u', []⟩ sB sm cb base b4 b7 bx l w.heap.size rv tv (rec .ready none) jj q SB)
      (fun W => ∃ v ans, Jd w0 W n L0 K0 X0 L1 K1 X1 f ⟨u, u', []⟩ b4 w.heap.size v ans ∧ W.heap[l]? = some (.loop (rec .done (some .ret))))
      ?_ ?_ W1 ⟨_, _, h1⟩).mono ?_
    · show ∀ _, _
      rintro jj W ⟨q, SB, h⟩
      have hq := (hwd h.rch).len hIx
      obtain ⟨wv, hb, hqu⟩ := h.sea.blk
      refine ⟨Nat.le_trans h.sea.le hq, (one_at h.st.cx).1, wv, _, hb, hqu, ?_⟩
      simp [waitL]
      omega
    · show ∀ _, _
      rintro jj W v v' s rest ⟨q, SB, h⟩ hb hq hq'
      obtain ⟨hj, rfl, hsea, hfr⟩ := h.sea.pop hb hq hq'
      have hst := h.st.fr h.sea hfr HM ⟨hlo.1, hlo.2.1⟩
      obtain ⟨W2, hW2⟩ : ∃ W2, W2 = (W.setCell ⟨sB, 3, none⟩ v').drew := ⟨_, rfl⟩
      rw [← hW2] at hsea hst ⊢
      clear hb hq hq' hfr hW2
      have hy := run_yield (P := Tryz.prog) (args := #[ptr (SB jj)]) hst.rcd (by rw [hrec]; simp)
      rw [hrec] at hy
      refine ⟨fn, _, assign, body, hy, roundIn_of_wpIn hfn (hassign _ (SB jj) W2 _ ⟨_, run_beginRound hst.rcd (by rw [hrec]), ?_⟩)⟩
      have hst3 := hst.put hl0 { rec .ready none with state := .busy }
      have hsea3 := hsea.put hst.rcd { rec .ready none with state := .busy }
      obtain ⟨W3, hW3⟩ : ∃ W3, W3 = W2.putObj l (.loop { rec .ready none with state := .busy }) := ⟨_, rfl⟩
      rw [← hW3] at hst3 hsea3 ⊢
      clear hW3 hst hsea hy
      obtain ⟨x0, x1, x2, x3, x5, x6, x9, x10, x11, x12, x13, x14, x15, x16, x17, x18, x19, x20, x21, x22, x23, x24, x25, x26, x27, x28, x29, x30, x31, x32, x33, x34, x35, x36, x37, x38, x39, x40, x41, x42, x43, x44, x45, x46, x47, x48, x49, x50, x51, x52, x53, x54, x55, x56, x57, x58, x59, x60, x61, x62, x63, x64, x65, x66, x67, x68, x69, x70, x71, x72, x73, x74, x75, x76, x77, x78, x79, x80, x81, x82, x83, x84, x85, x86, x87, x88, x89, x90, x91, x92, x93, x94, hx⟩ := htm (SB jj)
      rw [hx]
      have hiw := hwd h.rch
      have hej : q[jj]? = some (lsE q jj) := lsE_at hj
      have hem : lsE q jj ∈ q := List.mem_of_getElem? hej
      obtain ⟨g1, g2, g3, g4⟩ := hlive h.rch _ hem
      have hpl := hiw.wide.path _ hem
      have hql := hiw.len hIx
      refine apBody_any 1 l n m T M L K X L0 K0 X0 L1 K1 X1 ls f sB sm cb base b4 b7 rv tv (.slice none 0 0) jj q SB (lsE q jj) x0 x1 x2 x3 x5 x6 x9 x10 x11 x12 x13 x14 x15 x16 x17 x18 x19 x20 x21 x22 x23 x24 x25 x26 x27 x28 x29 x30 x31 x32 x33 x34 x35 x36 x37 x38 x39 x40 x41 x42 x43 x44 x45 x46 x47 x48 x49 x50 x51 x52 x53 x54 x55 x56 x57 x58 x59 x60 x61 x62 x63 x64 x65 x66 x67 x68 x69 x70 x71 x72 x73 x74 x75 x76 x77 x78 x79 x80 x81 x82 x83 x84 x85 x86 x87 x88 x89 x90 x91 x92 x93 x94 W3 _ hj rfl hsea3 hst3.tbs HJ hst3.cls HF (hlive h.rch) HM hst3.c7 hst3.c4 (show _ ≤ _ by omega) ?_ ?_ ?_ hNx ?_ ?_ body hbody
      · show ∀ _, _
        intro ks hks
        have h2 := Aw.IWide.fold hIx ks q ⟨hiw.wide.more, hiw.live⟩ (fun k hk => hNx _ _ ⟨g1, g2⟩ (beq_iff_eq.2 g3) (beq_iff_eq.2 g4) k (hks.subset hk)) (by omega)
        have := h2.len hIx
        omega
      · show ∀ _, _
        rintro a' W4 hall ⟨SB', hsea4⟩ hfr4
        have hst4 := hst3.fr hsea3 hfr4 HM ⟨hlo.1, hlo.2.1⟩
        have hr := run_endRound (P := Tryz.prog) none hst4.rcd
        refine ⟨_, _, hr, .inl ⟨rfl, _, SB', ⟨.step h.rch hej hall, ?_, ?_⟩⟩⟩
        · exact hsea4.put hst4.rcd _
        · have h5 := hst4.put hl0 (rec .ready none)
          rw [hrec] at h5 ⊢
          exact h5
      · show ∀ _, _
        rintro a' W4 k pre post v hk1 hk2 hk3 hc4 hown ho4
        have hne : ∀ {kk : Nat} {o : Obj}, W3.heap[kk]? = some o → (∀ cs t z, o ≠ Obj.cells cs t z) → W4.heap[kk]? = some o := fun {kk} {o} hk hc => by
          rw [ho4.block kk (blk_lt hk) (fun e => ?_)]
          · exact hk
          · rw [e, hst3.c4] at hk
            cases hk
            exact hc _ _ _ rfl
        have hrc := hne hst3.rcd (by intros; simp)
        have hr := run_endRound (P := Tryz.prog) (some .ret) hrc
        have hjd : Jd w0 W4 n L0 K0 X0 L1 K1 X1 f ⟨u, u', []⟩ b4 w.heap.size v ((lsE q jj).p ++ [k]) := by
          refine ⟨.inl ⟨jj, q, _, pre, k, post, h.rch, hej, hk1, hk2, hk3, rfl⟩, hc4, ?_, hne hst3.dfr (by intros; simp), ?_⟩
          · rw [List.length_append]
            exact owns_mono hown hst3.bel.size
          · refine ⟨ho4.os.trans hst3.bel.os, ho4.tape.trans hst3.bel.tape, ho4.output.trans hst3.bel.output, Nat.le_trans hst3.bel.size ho4.size, fun kk hk => ?_⟩
            exact (ho4.block kk (Nat.lt_of_lt_of_le hk hst3.bel.size) (fun e => by have := hb4; omega)).trans (hst3.bel.block kk hk)
        refine ⟨_, _, hr, .inr ⟨rfl, v, _, hjd.put hrc hl0 _, ?_⟩⟩
        rw [World.putObj_heap_same (blk_lt hrc), hrec]
        rfl
      · rintro ⟨_, _, h⟩
        exact h
      · intro ch a a' w h
        exact h
    · rintro e W2 ⟨⟨v, rfl⟩, (⟨jj, wv, ⟨q, SB, h⟩, hb, hqu⟩ | ⟨v, ans, h, hrc⟩)⟩
      · have hrun := run_endLoop (P := Tryz.prog) h.st.rcd (by rw [hrec]; simp)
        refine ⟨none, _, by rw [hrec] at hrun; exact hrun, hdone _ (Jd.put (R0 := rec .ready none) ⟨.inr ⟨jj, q, h.rch, ?_, rfl⟩, h.st.c4, World.ownsRow_nil _ _ _ _, h.st.dfr, h.st.bel⟩ h.st.rcd hl0 _)⟩
        obtain ⟨wv', hb', hqu'⟩ := h.sea.blk
        have e : wv' = wv := by
          rw [hb] at hb'
          injection hb' with hb'
          injection hb' with hb'
          simpa using hb'.symm
        subst e
        exact wait_none (hqu'.uniq hqu)
      · have hrun := run_endLoop (P := Tryz.prog) hrc (by rw [hrec]; simp)
        exact ⟨some .ret, _, by rw [hrec] at hrun; exact hrun, hstop _ v ans (h.put hrc hl0 _)⟩

end Go.Proofs.YtgflalfiopnmnaaGreatDoor

namespace Go.Proofs.YtgflalfiopnmnaaGreatDoor
open Go.RowKit Vl

set_option maxHeartbeats 4000000 in
set_option maxRecDepth 100000 in
theorem implSame_any (u u' : V) (ta ta' : Option Addr) (n cp TB TO m cp' TB' TO' : Nat) (A A' : Nat → Option Addr) (L C RB RO L' C' RB' RO' : Nat → Nat) (K X K' X' : Nat → Nat → V) (w : World) (hn : n ≤ 1048576) (hm : m ≤ 1048576) (HS : Hid (Small 1048576 n L K X)) (HS' : Hid (Small 1048576 m L' K' X')) (HT : Hid (TabsAt w ta n TB TO A L C RB RO K X)) (HT' : Hid (TabsAt w ta' m TB' TO' A' L' C' RB' RO' K' X')) :
    Calls Tryz.prog 14 #[.agg #[.int .i64 u.k, .int .i64 u.n, .string u.s, .int .i64 u.a, .slice ta n cp], .agg #[.int .i64 u'.k, .int .i64 u'.n, .string u'.s, .int .i64 u'.a, .slice ta' m cp']] w fun e w' => SameRes e n m u u' L L' K X K' X' ∧ Below w.heap.size w w' := by
  have A3 := alloc3 w (.cells #[.int .i64 u.k, .int .i64 u.n, .string u.s, .int .i64 u.a, .slice ta n cp] 27) (.cells #[.int .i64 u'.k, .int .i64 u'.n, .string u'.s, .int .i64 u'.a, .slice ta' m cp'] 27) (.cells #[.int .i64 u.k, .int .i64 u.n, .string u.s, .int .i64 u.a, .slice ta n cp, .int .i64 u'.k, .int .i64 u'.n, .string u'.s, .int .i64 u'.a, .slice ta' m cp'] 27)
  obtain ⟨w0, hw0⟩ : ∃ w0, w0 = ((w.alloc (.cells #[.int .i64 u.k, .int .i64 u.n, .string u.s, .int .i64 u.a, .slice ta n cp] 27)).alloc (.cells #[.int .i64 u'.k, .int .i64 u'.n, .string u'.s, .int .i64 u'.a, .slice ta' m cp'] 27)).alloc (.cells #[.int .i64 u.k, .int .i64 u.n, .string u.s, .int .i64 u.a, .slice ta n cp, .int .i64 u'.k, .int .i64 u'.n, .string u'.s, .int .i64 u'.a, .slice ta' m cp'] 27) := ⟨_, rfl⟩
  rw [← hw0] at A3
  have HB0 : Hid (Below w.heap.size w w0) := A3.2.2.2.2
  have hblk := A3.2.2.1
  obtain ⟨G, HGd⟩ : ∃ G : GrS, Hid (G = ⟨two u u', two n m, two L L', two K K', two X X'⟩) := ⟨_, rfl⟩
  have HGs : Hid (GsAt w0 2 (w.heap.size + 2) G (two ta ta') (two cp cp') (two TB TB') (two TO TO') (two A A') (two C C') (two RB RB') (two RO RO')) := by
    rw [HGd.out]
    refine ⟨fun q hq => ?_, fun q hq => ?_, fun q hq => ?_, fun q hq => ?_, fun q hq => ?_, fun q hq => ?_, fun q hq => ?_⟩ <;> rcases (show q = 0 ∨ q = 1 by omega) with rfl | rfl
    iterate 10 (simp [two, World.cell?, hblk])
    · exact ⟨hn, HS.out⟩
    · exact ⟨hm, HS'.out⟩
    · exact HT.out.below HB0.out
    · exact HT'.out.below HB0.out
  have hcf := classify_any 2 (by omega) (by omega) (w.heap.size + 2) G _ _ _ _ _ _ _ _ w0 HGs
  have hoff : G.off 2 = n + m := by rw [HGd.out]; simp [GrS.off, two]
  clear A3 hblk
  go_enter Tryz.func14, Tryz.ntmps14
  go_wp2_with fail
  rw [← hw0]
  refine hcf.mono ?_
  clear hcf hw0
  rintro e w1 ⟨hcase, hb1⟩
  have HB1 : Hid (Below w.heap.size w w1) := grw HB0.out hb1
  rcases hcase with ⟨T, M, Lc, Kc, Xc, ls, f, rv, tv, cb, rfl, hd⟩ | ⟨⟨q, hq, hno⟩, rfl⟩
  · have hok0 : OkG n u L K X := by have := hd.cmb.ok 0 (by omega); rw [HGd.out] at this; exact this
    have hok1 : OkG m u' L' K' X' := by have := hd.cmb.ok 1 (by omega); rw [HGd.out] at this; exact this
    have e0 : sh (G.off 0) (G.U 0) = u := by rw [HGd.out]; exact sh_zero u
    have e1 : sh (G.off 1) (G.U 1) = sh n u' := by rw [HGd.out]; simp [GrS.off, two]
    obtain ⟨rb, rc, rfl, hr0⟩ := owns_cell hd.roots (k := 0) (y := ifv T (sh (G.off 0) (G.U 0))) (by simp)
    obtain ⟨rb', rc', e', hr1⟩ := owns_cell hd.roots (k := 1) (y := ifv T (sh (G.off 1) (G.U 1))) (by simp)
    cases e'
    obtain ⟨va, vc, rfl, _⟩ := owns_form hd.tabs
    rw [e0] at hr0
    rw [e1] at hr1
    have hN : G.off 2 ≤ 400 := by have := hok0.len; have := hok1.len; omega
    have hx : isV (G.off 2) u = true := by rw [hoff]; exact isV_more hok0.root
    have hy : isV (G.off 2) (sh n u') = true := by rw [hoff]; exact sh_isV hok1.root
    have HR : Hid (∀ b, b = alike T (fstV f u) (fstV f (sh n u')) → SameRes (.returned (.bool b)) n m u u' L L' K X K' X') := show ∀ b, _ from fun b hb => by
      subst hb
      refine Or.inl ⟨⟨hok0, hok1⟩, f, ?_, by rw [alike_fst hd.tbs.inj hd.is.low hx hy]⟩
      have h2 := hd.srt
      have h3 := hd.is
      have t0 := hd.cmb.tab 0 (by omega)
      have t1 := hd.cmb.tab 1 (by omega)
      rw [HGd.out] at t0 t1
      rw [hoff] at h2 h3
      simp only [GrS.off, two, Nat.zero_add, sh_zero, if_true, Nat.one_ne_zero, if_false] at t0 t1
      have hL : ∀ j, j < n + m → Lc j = jn n L L' j := fun j hj => by
        by_cases e : j < n
        · rw [jn_lt e]; exact (t0 j e).1
        · rw [jn_ge e]; have := (t1 (j - n) (by omega)).1; rw [show n + (j - n) = j by omega] at this; exact this
      have hK : ∀ j, j < n + m → Kc j = jn n K K' j := fun j hj => by
        by_cases e : j < n
        · rw [jn_lt e]; exact (t0 j e).2.1
        · rw [jn_ge e]; have := (t1 (j - n) (by omega)).2.1; rw [show n + (j - n) = j by omega] at this; exact this
      have hX : ∀ j, j < n + m → Xc j = jn n X (fun j c => sh n (X' j c)) j := fun j hj => by
        by_cases e : j < n
        · rw [jn_lt e]; exact funext (t0 j e).2.2
        · rw [jn_ge e]; have := funext (t1 (j - n) (by omega)).2.2; rw [show n + (j - n) = j by omega] at this; exact this
      exact ⟨ls, fun r hr => by rw [← hK r hr, ← hL r hr]; exact h2 r hr, h3.agree hL (fun j hj => by unfold sK; rw [hK j hj]) (fun j hj => by unfold sK; rw [hX j hj])⟩
    obtain ⟨w2, hw2⟩ : ∃ w2, w2 = w1.alloc (.cells #[.slice (some ⟨rb, 0, none⟩) 2 rc, .slice va (G.off 2) vc, .slice (some ⟨cb, 0, none⟩) (G.off 2) (G.off 2)] 95) := ⟨_, rfl⟩
    have hb2 : Below w1.heap.size w1 w2 := by rw [hw2]; exact (Below.refl _ _).alloc (Nat.le_refl _) _
    have HB2 : Hid (Below w.heap.size w w2) := grw HB1.out hb2
    have H2 : w2.heap[w1.heap.size]? = some (.cells #[.slice (some ⟨rb, 0, none⟩) 2 rc, .slice va (G.off 2) vc, .slice (some ⟨cb, 0, none⟩) (G.off 2) (G.off 2)] 95 (0, 0)) := by rw [hw2]; exact heap_alloc_new _ _
    obtain ⟨cc, hcc⟩ : ∃ cc, w1.heap.size = cc := ⟨_, rfl⟩
    rw [hcc] at H2
    obtain ⟨c0, c1, c2, _⟩ := three_at H2
    have HF1 : Hid (∀ w', Below w2.heap.size w2 w' → Calls Tryz.prog 36 #[.agg #[.slice (some ⟨rb, 0, none⟩) 2 rc, .slice va (G.off 2) vc, .slice (some ⟨cb, 0, none⟩) (G.off 2) (G.off 2)], ifv T u] w' fun e w'' => e = .returned (ifv T (fstV f u)) ∧ Below w'.heap.size w' w'') := show ∀ _, _ from fun w' hb => hd.first hN u w' hx (grw hb2 hb)
    have HF2 : Hid (∀ w', Below w2.heap.size w2 w' → Calls Tryz.prog 36 #[.agg #[.slice (some ⟨rb, 0, none⟩) 2 rc, .slice va (G.off 2) vc, .slice (some ⟨cb, 0, none⟩) (G.off 2) (G.off 2)], ifv T (sh n u')] w' fun e w'' => e = .returned (ifv T (fstV f (sh n u'))) ∧ Below w'.heap.size w' w'') := show ∀ _, _ from fun w' hb => hd.first hN (sh n u') w' hy (grw hb2 hb)
    have HEQ : Hid (∀ w', Below w2.heap.size w2 w' → (binOp .eql 54 (ifv T (fstV f u)) (ifv T (fstV f (sh n u')))).run Tryz.prog w' = .ok (.bool (alike T (fstV f u) (fstV f (sh n u')))) w') := show ∀ _, _ from fun w' hb => eql_ifv T (fstV_isV hd.is.low hx) (fstV_isV hd.is.low hy) w' (fun j hj => by
      obtain ⟨ord, a1, _⟩ := hd.tbs.tab j hj
      unfold TabB at a1
      exact ⟨_, _, ((grw hb2 hb).block _ (blk_lt a1)).trans a1⟩)
    have r0 : w2.cell? ⟨rb, 0, none⟩ = some (ifv T u) := (hb2.cell (World.block_lt_of_cell? _ _ hr0)).trans hr0
    have r1 : w2.cell? ⟨rb, 1, none⟩ = some (ifv T (sh n u')) := (hb2.cell (World.block_lt_of_cell? _ _ hr1)).trans hr1
    obtain ⟨bq, hbq⟩ : ∃ bq, alike T (fstV f u) (fstV f (sh n u')) = bq := ⟨_, rfl⟩
    rw [hbq] at HEQ HR
    obtain ⟨ut, uy, hxv⟩ := ifv_form T u
    obtain ⟨vt, vy, hyv⟩ := ifv_form T (sh n u')
    obtain ⟨pt, py, hpv⟩ := ifv_form T (fstV f u)
    obtain ⟨st, sy, hsv⟩ := ifv_form T (fstV f (sh n u'))
    rw [hxv] at r0 HF1
    rw [hyv] at r1 HF2
    rw [hpv] at HF1 HEQ
    rw [hsv] at HF2 HEQ
    replace c0 := cellB c0
    replace c1 := cellB c1
    replace c2 := cellB c2
    replace r0 := cellB r0
    replace r1 := cellB r1
    obtain ⟨NN, hNN⟩ : ∃ NN, G.off 2 = NN := ⟨_, rfl⟩
    rw [hNN] at c1 c2 HF1 HF2 hw2 ⊢
    clear hd hr0 hr1 e0 e1 hN hx hy hb2 hxv hyv hpv hsv hbq H2 hok0 hok1 hoff hNN HGs HGd hb1
    go_wp2
    try rw [hcc] at hw2
    try rw [hcc]
    rw [← hw2]
    clear hw2 hcc
    refine wp_region_held_drew (S := fun x => Below w2.heap.size w2 x) (by kernel_rfl) (Below.refl _ _).drew (fun hHeld => ?_)
    refine wpT (i := 0) (v := .bool true) rfl (fun w hSw => ?_) hHeld ?_
    · first | rfl | go_simp
    simp only [Act.put, pz]
    refine wpT (i := 1) (v := .bool true) rfl (fun w hSw => ?_) hHeld ?_
    · first | rfl | go_simp
    simp only [Act.put, pz]
    refine wpT (i := 2) (v := .agg #[.slice (some ⟨rb, 0, none⟩) 2 rc, .slice va NN vc, .slice (some ⟨cb, 0, none⟩) NN NN]) rfl (fun w hSw => ?_) hHeld ?_
    · have q0 := c0 w hSw; have q1 := c1 w hSw; have q2 := c2 w hSw; first | rfl | go_simp
    simp only [Act.put, pz]
    refine wpT (i := 3) (v := .pointer (some ⟨cc, 0, none⟩)) rfl (fun w hSw => ?_) hHeld ?_
    · first | rfl | go_simp
    simp only [Act.put, pz]
    refine wpT (i := 4) (v := .slice (some ⟨rb, 0, none⟩) 2 rc) rfl (fun w hSw => ?_) hHeld ?_
    · have q0 := c0 w hSw; first | rfl | go_simp
    simp only [Act.put, pz]
    refine wpT (i := 5) (v := .pointer (some ⟨rb, 0, none⟩)) rfl (fun w hSw => ?_) hHeld ?_
    · first | rfl | go_simp
    simp only [Act.put, pz]
    refine wpT (i := 6) (v := .iface ut uy) rfl (fun w hSw => ?_) hHeld ?_
    · have q0 := r0 w hSw; first | rfl | go_simp
    simp only [Act.put, pz]
    refine wpT (i := 8) (v := .agg #[.slice (some ⟨rb, 0, none⟩) 2 rc, .slice va NN vc, .slice (some ⟨cb, 0, none⟩) NN NN]) rfl (fun w hSw => ?_) hHeld ?_
    · have q0 := c0 w hSw; have q1 := c1 w hSw; have q2 := c2 w hSw; first | rfl | go_simp
    simp only [Act.put, pz]
    refine wpT (i := 9) (v := .pointer (some ⟨cc, 0, none⟩)) rfl (fun w hSw => ?_) hHeld ?_
    · first | rfl | go_simp
    simp only [Act.put, pz]
    refine wpT (i := 10) (v := .slice (some ⟨rb, 0, none⟩) 2 rc) rfl (fun w hSw => ?_) hHeld ?_
    · have q0 := c0 w hSw; first | rfl | go_simp
    simp only [Act.put, pz]
    refine wpT (i := 11) (v := .pointer (some ⟨rb, 1, none⟩)) rfl (fun w hSw => ?_) hHeld ?_
    · first | rfl | go_simp
    simp only [Act.put, pz]
    refine wpT (i := 12) (v := .iface vt vy) rfl (fun w hSw => ?_) hHeld ?_
    · have q0 := r1 w hSw; first | rfl | go_simp
    simp only [Act.put, pz]
    refine wpAnyH_ready (rs := [7]) (by kernel_rfl) (by simp) ?_
    refine AllReadyH.cons rfl (fun K' hK' => ?_) AllReadyH.nil
    have hcall := HF1.out _ hHeld
    go_simp
    refine hcall.mono ?_
    clear hcall
    rintro e w3 ⟨rfl, hb3⟩
    have hs3 : Below w2.heap.size w2 w3 := grw hHeld hb3
    refine hK'.out _ _ hs3 (fun hHeld => ?_)
    clear hK' hb3
    refine wpAnyH_ready (rs := [13]) (by kernel_rfl) (by simp) ?_
    refine AllReadyH.cons rfl (fun K' hK' => ?_) AllReadyH.nil
    have hcall := HF2.out _ hHeld
    go_simp
    refine hcall.mono ?_
    clear hcall
    rintro e w4 ⟨rfl, hb4⟩
    have hs4 : Below w2.heap.size w2 w4 := grw hHeld hb4
    refine hK'.out _ _ hs4 (fun hHeld => ?_)
    clear hK' hb4
    refine wpT (i := 14) (v := .bool bq) rfl (fun w hSw => ?_) hHeld ?_
    · have q0 := HEQ.out w hSw; first | rfl | go_simp
    simp only [Act.put, pz]
    refine wpT (i := 15) (v := .bool bq) rfl (fun w hSw => ?_) hHeld ?_
    · first | rfl | go_simp
    simp only [Act.put, pz]
    refine wpT (i := 16) (v := .bool bq) rfl (fun w hSw => ?_) hHeld ?_
    · first | rfl | go_simp
    simp only [Act.put, pz]
    refine wpAnyH_done (by kernel_rfl) ?_ _
    go_wp2
    go_ret
    exact ⟨HR.out _ rfl, grw HB2.out hs4⟩
  · have HN : Hid (¬ (OkG n u L K X ∧ OkG m u' L' K' X')) := by
      rw [HGd.out] at hno
      rcases (show q = 0 ∨ q = 1 by omega) with rfl | rfl
      · exact (show ¬ (OkG n u L K X ∧ OkG m u' L' K' X') from fun h => hno h.1)
      · exact (show ¬ (OkG n u L K X ∧ OkG m u' L' K' X') from fun h => hno h.2)
    obtain ⟨w2, hw2⟩ : ∃ w2, w2 = w1.alloc (.cells #[.slice none 0 0, .slice none 0 0, .slice none 0 0] 95) := ⟨_, rfl⟩
    have hb2 : Below w1.heap.size w1 w2 := by rw [hw2]; exact (Below.refl _ _).alloc (Nat.le_refl _) _
    have HB2 : Hid (Below w.heap.size w w2) := grw HB1.out hb2
    go_wp2
    rw [← hw2]
    go_quiet (fail)
    go_wp2
    go_ret
    exact ⟨Or.inr ⟨HN.out, rfl⟩, below_drewN HB2.out _⟩

end Go.Proofs.YtgflalfiopnmnaaGreatDoor

namespace Go.Proofs.YtgflalfiopnmnaaGreatDoor
open Go.RowKit Vl Aw
attribute [local go_sem] Oper.semAt_some

def ApI (w w' : World) (e : Ending) (n m : Nat) (u u' : V) (L L' : Nat → Nat) (K X K' X' : Nat → Nat → V) : Prop :=
  ((OkG n u L K X ∧ OkG m u' L' K' X') ∧ ∃ f v ans, ClsAre (n + m) (jn n L L') (jn n K K') (jn n X (fun j c => sh n (X' j c))) f ∧ (∀ i, n + m ≤ i → f i = 0) ∧ e = .returned v ∧ Aw.IDone (Aw.sysOf n L K X L' K' X' f) ⟨u, u', []⟩ ans ∧ w'.ownsRow w.heap.size 24 4 v ans.length (keyCells ans)) ∨ (¬ (OkG n u L K X ∧ OkG m u' L' K' X') ∧ e = .returned (.slice none 0 0))

theorem res_apart (tmps : Array Value) (b4 on oc : Nat) (oa : Option Addr) (w : World) (h : tmps.getD 4 undef = ptr b4) (hc : w.cell? ⟨b4, 0, none⟩ = some (.slice oa on oc)) : (results Tryz.f15 tmps).run Tryz.prog w = .ok (.slice oa on oc) w := by
  have h' : tmps[4]?.getD undef = ptr b4 := by rw [← Array.getD_eq_getD_getElem?]; exact h
  simp [results, Tryz.results15, h', hc, go_sem]

set_option maxHeartbeats 8000000 in
set_option maxRecDepth 100000 in
theorem implApart_any (u u' : V) (ta ta' : Option Addr) (n cp TB TO m cp' TB' TO' : Nat) (A A' : Nat → Option Addr) (L C RB RO L' C' RB' RO' : Nat → Nat) (K X K' X' : Nat → Nat → V) (w : World) (hn : n ≤ 1048576) (hm : m ≤ 1048576) (HS : Hid (Small 1048576 n L K X)) (HS' : Hid (Small 1048576 m L' K' X')) (HT : Hid (TabsAt w ta n TB TO A L C RB RO K X)) (HT' : Hid (TabsAt w ta' m TB' TO' A' L' C' RB' RO' K' X')) :
    Calls Tryz.prog 15 #[.agg #[.int .i64 u.k, .int .i64 u.n, .string u.s, .int .i64 u.a, .slice ta n cp], .agg #[.int .i64 u'.k, .int .i64 u'.n, .string u'.s, .int .i64 u'.a, .slice ta' m cp']] w fun e w' => ApI w w' e n m u u' L L' K X K' X' ∧ Below w.heap.size w w' := by
  have A3 := alloc3 w (.cells #[.int .i64 u.k, .int .i64 u.n, .string u.s, .int .i64 u.a, .slice ta n cp] 27) (.cells #[.int .i64 u'.k, .int .i64 u'.n, .string u'.s, .int .i64 u'.a, .slice ta' m cp'] 27) (.cells #[.slice none 0 0] 42)
  obtain ⟨wA, hwA⟩ : ∃ wA, wA = ((w.alloc (.cells #[.int .i64 u.k, .int .i64 u.n, .string u.s, .int .i64 u.a, .slice ta n cp] 27)).alloc (.cells #[.int .i64 u'.k, .int .i64 u'.n, .string u'.s, .int .i64 u'.a, .slice ta' m cp'] 27)).alloc (.cells #[.slice none 0 0] 42) := ⟨_, rfl⟩
  rw [← hwA] at A3
  obtain ⟨w0, hw0⟩ : ∃ w0, w0 = wA.alloc (.cells #[.int .i64 u.k, .int .i64 u.n, .string u.s, .int .i64 u.a, .slice ta n cp, .int .i64 u'.k, .int .i64 u'.n, .string u'.s, .int .i64 u'.a, .slice ta' m cp'] 27) := ⟨_, rfl⟩
  have hb0 : Below wA.heap.size wA w0 := by rw [hw0]; exact (Below.refl _ _).alloc (Nat.le_refl _) _
  have hsA : wA.heap.size = w.heap.size + 3 := A3.2.2.2.1
  have HB0 : Hid (Below w.heap.size w w0) := grw A3.2.2.2.2 hb0
  have hblk : w0.heap[w.heap.size + 3]? = some (.cells #[.int .i64 u.k, .int .i64 u.n, .string u.s, .int .i64 u.a, .slice ta n cp, .int .i64 u'.k, .int .i64 u'.n, .string u'.s, .int .i64 u'.a, .slice ta' m cp'] 27 (0, 0)) := by rw [hw0, ← hsA]; exact heap_alloc_new _ _
  have HC0 : Hid (w0.heap[w.heap.size + 2]? = some (.cells #[.slice none 0 0] 42 (0, 0))) := blkB A3.2.2.1 hb0
  have HS0 : Hid (w0.heap.size = w.heap.size + 4) := by show _ = _; rw [hw0, World.size_alloc, hsA]
  obtain ⟨G, HGd⟩ : ∃ G : GrS, Hid (G = ⟨two u u', two n m, two L L', two K K', two X X'⟩) := ⟨_, rfl⟩
  have HGs : Hid (GsAt w0 2 (w.heap.size + 3) G (two ta ta') (two cp cp') (two TB TB') (two TO TO') (two A A') (two C C') (two RB RB') (two RO RO')) := by
    rw [HGd.out]
    refine ⟨fun q hq => ?_, fun q hq => ?_, fun q hq => ?_, fun q hq => ?_, fun q hq => ?_, fun q hq => ?_, fun q hq => ?_⟩ <;> rcases (show q = 0 ∨ q = 1 by omega) with rfl | rfl
    iterate 10 (simp [two, World.cell?, hblk])
    · exact ⟨hn, HS.out⟩
    · exact ⟨hm, HS'.out⟩
    · exact HT.out.below HB0.out
    · exact HT'.out.below HB0.out
  have hcf := classify_any 2 (by omega) (by omega) (w.heap.size + 3) G _ _ _ _ _ _ _ _ w0 HGs
  have hoff : G.off 2 = n + m := by rw [HGd.out]; simp [GrS.off, two]
  clear A3 hblk hb0 hsA
  rw [hwA] at hw0
  refine (callsIn_wide (n := 3)).1 ?_
  refine callsIn_of_wp_marks Tryz.func15 rfl trivial ?_ rfl
  simp only [Tryz.ntmps15, List.size_toArray, List.length_cons, List.length_nil, Nat.reduceAdd, Nat.reduceSub, Array.replicate_succ, Array.replicate_zero, List.push_toArray, List.append_toArray, List.nil_append, List.cons_append]
  gi_wp2_with fail
  rw [← hw0]
  refine ⟨trivial, (callsIn_wideR (ro := none) hcf).mono ?_⟩
  clear hcf hw0 hwA
  rintro e w1 ⟨hcase, hb1⟩
  have HB1 : Hid (Below w.heap.size w w1) := grw HB0.out hb1
  have HC1 : Hid (w1.heap[w.heap.size + 2]? = some (.cells #[.slice none 0 0] 42 (0, 0))) := blkB HC0.out hb1
  have HS1 : Hid (w.heap.size + 4 ≤ w1.heap.size) := by have := hb1.size; rw [HS0.out] at this; exact this
  obtain ⟨b4, hb4⟩ : ∃ b4, w.heap.size + 2 = b4 := ⟨_, rfl⟩
  rcases hcase with ⟨T, M, Lc, Kc, Xc, ls, f₀, rv, tv, cb, rfl, hd⟩ | ⟨⟨q, hq, hno⟩, rfl⟩
  · have hok0 : OkG n u L K X := by have := hd.cmb.ok 0 (by omega); rw [HGd.out] at this; exact this
    have hok1 : OkG m u' L' K' X' := by have := hd.cmb.ok 1 (by omega); rw [HGd.out] at this; exact this
    have e0 : sh (G.off 0) (G.U 0) = u := by rw [HGd.out]; exact sh_zero u
    have e1 : sh (G.off 1) (G.U 1) = sh n u' := by rw [HGd.out]; simp [GrS.off, two]
    obtain ⟨rb, rc, rfl, hr0⟩ := owns_cell hd.roots (k := 0) (y := ifv T (sh (G.off 0) (G.U 0))) (by simp)
    obtain ⟨rb', rc', e', hr1⟩ := owns_cell hd.roots (k := 1) (y := ifv T (sh (G.off 1) (G.U 1))) (by simp)
    cases e'
    obtain ⟨va, vc, rfl, _⟩ := owns_form hd.tabs
    rw [e0] at hr0
    rw [e1] at hr1
    have hmm := @run_makeMap Tryz.prog
    obtain ⟨f, hf⟩ : ∃ f : Nat → Nat, f = fun i => if i < n + m then f₀ i else 0 := ⟨_, rfl⟩
    have hff : ∀ i, i < n + m → f₀ i = f i := fun i hi => by rw [hf]; exact (if_pos hi).symm
    have HFz : Hid (∀ i, n + m ≤ i → f i = 0) := show ∀ i, _ from fun i hi => by rw [hf]; exact if_neg (by omega)
    have hIs : IsCls (n + m) Lc (sK Kc ls) (sK Xc ls) f := by
      have h3 := hd.is
      have h2 := hd.srt
      have h4 := hd.cmb.good
      rw [hoff] at h2 h3 h4
      exact h3.congr (fun r hr c hc => h4 r hr _ ((h2 r hr).lt hc)) hff
    clear hf
    have HCls : Hid (ClsAre (n + m) (jn n L L') (jn n K K') (jn n X (fun j c => sh n (X' j c))) f) := by
      have h2 := hd.srt
      have h3 := hIs
      have t0 := hd.cmb.tab 0 (by omega)
      have t1 := hd.cmb.tab 1 (by omega)
      rw [HGd.out] at t0 t1
      rw [hoff] at h2
      simp only [GrS.off, two, Nat.zero_add, sh_zero, if_true, Nat.one_ne_zero, if_false] at t0 t1
      have hL : ∀ j, j < n + m → Lc j = jn n L L' j := fun j hj => by
        by_cases e : j < n
        · rw [jn_lt e]; exact (t0 j e).1
        · rw [jn_ge e]; have := (t1 (j - n) (by omega)).1; rw [show n + (j - n) = j by omega] at this; exact this
      have hK : ∀ j, j < n + m → Kc j = jn n K K' j := fun j hj => by
        by_cases e : j < n
        · rw [jn_lt e]; exact (t0 j e).2.1
        · rw [jn_ge e]; have := (t1 (j - n) (by omega)).2.1; rw [show n + (j - n) = j by omega] at this; exact this
      have hX : ∀ j, j < n + m → Xc j = jn n X (fun j c => sh n (X' j c)) j := fun j hj => by
        by_cases e : j < n
        · rw [jn_lt e]; exact funext (t0 j e).2.2
        · rw [jn_ge e]; have := funext (t1 (j - n) (by omega)).2.2; rw [show n + (j - n) = j by omega] at this; exact this
      exact ⟨ls, fun r hr => by rw [← hK r hr, ← hL r hr]; exact h2 r hr, h3.agree hL (fun j hj => by unfold sK; rw [hK j hj]) (fun j hj => by unfold sK; rw [hX j hj])⟩
    have HJn : Hid (Jnd n m Lc (sK Kc ls) (sK Xc ls) L K X L' K' X' ls) := by
      have h2 := hd.srt
      have t0 := hd.cmb.tab 0 (by omega)
      have t1 := hd.cmb.tab 1 (by omega)
      rw [HGd.out] at t0 t1
      rw [hoff] at h2
      simp only [GrS.off, two, Nat.zero_add, sh_zero, if_true, Nat.one_ne_zero, if_false] at t0 t1
      refine ⟨fun i hi => ?_, fun i hi => ?_, hok0.all, hok1.all⟩
      · obtain ⟨g1, g2, g3⟩ := t0 i hi
        have h3 := h2 i (by omega)
        rw [g1, g2] at h3
        refine ⟨g1, h3, by unfold sK; rw [g2], ?_⟩
        unfold sK
        rw [show Xc i = X i from funext g3]
      · obtain ⟨g1, g2, g3⟩ := t1 i hi
        have h3 := h2 (n + i) (by omega)
        rw [g1, g2] at h3
        refine ⟨g1, h3, by unfold sK; rw [g2], ?_⟩
        unfold sK
        rw [show Xc (n + i) = fun c => sh n (X' i c) from funext g3]
    have HLow : Hid (∀ i, i < n + m → f i ≤ i) := hIs.low
    have HTb1 : Hid (Tbs w1 (n + m) T M (fun j => (j : Nat)) Lc (sK Kc ls) (sK Xc ls)) := by rw [← hoff]; exact hd.tbs
    have HCl1 : Hid (w1.rowIs cb 3 (n + m) (fun i => .int .i64 (f i : Nat))) := by
      have h := hd.cls
      rw [hoff] at h
      exact h.congr (fun i hi => by rw [hff i hi])
    have HOK : Hid (OkG n u L K X ∧ OkG m u' L' K' X') := ⟨hok0, hok1⟩
    obtain ⟨ut, uy, hxv⟩ := ifv_form T u
    obtain ⟨vt, vy, hyv⟩ := ifv_form T (sh n u')
    rw [hxv] at hr0
    rw [hyv] at hr1
    have HXV : Hid (ifv T u = .iface ut uy ∧ ifv T (sh n u') = .iface vt vy) := ⟨hxv, hyv⟩
    have HRO : Hid (∃ cs, w1.heap[rb]? = some (.cells cs 54 (0, 0))) := by
      obtain ⟨_, cur, hc⟩ := owns_type hd.roots (g := rb) rfl
      exact ⟨cur, hc⟩
    have HR01 : Hid (w1.cell? ⟨rb, 0, none⟩ = some (.iface ut uy) ∧ w1.cell? ⟨rb, 1, none⟩ = some (.iface vt vy)) := ⟨hr0, hr1⟩
    clear hIs hff
    clear hd hr0 hr1 e0 e1 hxv hyv HGs HGd hb1 hok0 hok1
    gi_wp2
    obtain ⟨cc, hcc⟩ : ∃ cc, w1.heap.size = cc := ⟨_, rfl⟩
    obtain ⟨sm, hsm⟩ : ∃ sm, cc + 1 = sm := ⟨_, rfl⟩
    obtain ⟨sB, hsB⟩ : ∃ sB, sm + 1 = sB := ⟨_, rfl⟩
    obtain ⟨b7, hb7⟩ : ∃ b7, sB + 1 = b7 := ⟨_, rfl⟩
    rw [hcc, hsm, hsB, hb7]
    obtain ⟨w5, hw5⟩ : ∃ w5, w5 = (((w1.alloc (.cells #[.slice (some ⟨rb, 0, none⟩) 2 rc, .slice va (n + m) vc, .slice (some ⟨cb, 0, none⟩) (n + m) (n + m)] 95)).alloc (.map #[] 0)).alloc (.cells #[.slice (some ⟨rb, 0, none⟩) 2 rc, .slice va (n + m) vc, .slice (some ⟨cb, 0, none⟩) (n + m) (n + m), .slice none 0 0, .map (some sm)] 105)).alloc (.cells #[.pointer (some ⟨sB, 0, none⟩)] 99) := ⟨_, rfl⟩
    rw [← hw5]
    have F5 : Hid (w5.heap[cc]? = some (.cells #[.slice (some ⟨rb, 0, none⟩) 2 rc, .slice va (n + m) vc, .slice (some ⟨cb, 0, none⟩) (n + m) (n + m)] 95 (0, 0)) ∧ w5.heap[sm]? = some (.map #[] 0) ∧ w5.heap[sB]? = some (.cells #[.slice (some ⟨rb, 0, none⟩) 2 rc, .slice va (n + m) vc, .slice (some ⟨cb, 0, none⟩) (n + m) (n + m), .slice none 0 0, .map (some sm)] 105 (0, 0)) ∧ w5.heap[b7]? = some (.cells #[.pointer (some ⟨sB, 0, none⟩)] 99 (0, 0)) ∧ w5.heap.size = b7 + 1 ∧ Below w1.heap.size w1 w5) := by
      have A := alloc2 w1 (.cells #[.slice (some ⟨rb, 0, none⟩) 2 rc, .slice va (n + m) vc, .slice (some ⟨cb, 0, none⟩) (n + m) (n + m)] 95) (.map #[] 0)
      obtain ⟨wB, hwB⟩ : ∃ wB, wB = (w1.alloc (.cells #[.slice (some ⟨rb, 0, none⟩) 2 rc, .slice va (n + m) vc, .slice (some ⟨cb, 0, none⟩) (n + m) (n + m)] 95)).alloc (.map #[] 0) := ⟨_, rfl⟩
      rw [← hwB] at A hw5
      have B := alloc2 wB (.cells #[.slice (some ⟨rb, 0, none⟩) 2 rc, .slice va (n + m) vc, .slice (some ⟨cb, 0, none⟩) (n + m) (n + m), .slice none 0 0, .map (some sm)] 105) (.cells #[.pointer (some ⟨sB, 0, none⟩)] 99)
      rw [← hw5] at B
      obtain ⟨A1, A2, A3, A4⟩ := A
      obtain ⟨B1, B2, B3, B4⟩ := B
      rw [hcc] at A1 A2 A3
      rw [hsm] at A2
      have hz : wB.heap.size = sB := by omega
      rw [hz] at B1 B2 B3
      rw [hb7] at B2
      exact ⟨blkB A1 B4, blkB A2 B4, B1, B2, by omega, grw A4 B4⟩
    have HNum : Hid (w1.heap.size = cc ∧ sm = cc + 1 ∧ sB = cc + 2 ∧ b7 = cc + 3) := ⟨hcc, by omega, by omega, by omega⟩
    clear hw5 hcc hsm hsB hb7 hmm
    have HB5 : Hid (Below w.heap.size w w5) := grw HB1.out F5.out.2.2.2.2.2
    have hbb := F5.out.2.2.2.2.2
    obtain ⟨base, hbase⟩ : ∃ base, w5.heap.size = base := ⟨_, rfl⟩
    have HBase : Hid (w5.heap.size = base ∧ base = cc + 4) := ⟨hbase, by have := F5.out.2.2.2.2.1; have := HNum.out; omega⟩
    have HSea5 : Hid (Sea w5 n m T sB sm cb base (.slice (some ⟨rb, 0, none⟩) 2 rc) (.slice va (n + m) vc) 0 [] (fun _ => 0)) := by
      have := HNum.out
      have := HBase.out
      exact ⟨⟨.slice none 0 0, F5.out.2.2.1, Or.inl ⟨rfl, rfl⟩⟩, ⟨fun i hi => absurd hi (Nat.not_lt_zero _)⟩, ⟨#[], 0, F5.out.2.1, rfl⟩, ⟨by omega, by omega, by omega⟩, Nat.le_refl _⟩
    have HTb5 : Hid (Tbs w5 (n + m) T M (fun j => (j : Nat)) Lc (sK Kc ls) (sK Xc ls)) := HTb1.out.below hbb
    have HCl5 : Hid (w5.rowIs cb 3 (n + m) (fun i => .int .i64 (f i : Nat))) := by
      obtain ⟨cs, k1, k2, k3⟩ := HCl1.out
      exact ⟨cs, blkB k1 hbb, k2, k3⟩
    have HMs : Hid (∀ j, j < n + m → M j ≠ sm) := show ∀ j, _ from fun j hj e => by
      obtain ⟨l, a1, _⟩ := HTb1.out.map j hj
      have := a1.lt
      have := HNum.out
      omega
    have HB7 : Hid (∀ y, Fr sB sm base w5 y → y.cell? ⟨b7, 0, none⟩ = some (ptr sB)) := show ∀ y, _ from fun y hf => (one_at (HSea5.out.keep hf F5.out.2.2.2.1 (by decide) (by decide))).1
    have HCC0 : Hid (∀ y, Fr sB sm base w5 y → y.cell? ⟨cc, 0, none⟩ = some (.slice (some ⟨rb, 0, none⟩) 2 rc)) := show ∀ y, _ from fun y hf => (three_at (HSea5.out.keep hf F5.out.1 (by decide) (by decide))).1
    have HRR : Hid (∀ y, Fr sB sm base w5 y → y.cell? ⟨rb, 0, none⟩ = some (.iface ut uy) ∧ y.cell? ⟨rb, 1, none⟩ = some (.iface vt vy)) := show ∀ y, _ from fun y hf => by
      obtain ⟨cs, hc⟩ := HRO.out
      have h5 := HSea5.out.keep hf (blkB hc hbb) (by decide) (by decide)
      exact ⟨(World.cell?_of_block (h5.trans hc.symm)).trans HR01.out.1, (World.cell?_of_block (h5.trans hc.symm)).trans HR01.out.2⟩
    have HRC : Hid (∀ y, Below w5.heap.size w5 y → Calls Tryz.prog 37 #[ptr sB, .iface ut uy, .iface vt vy, .agg #[.pointer none, .pointer none, .int .i64 0, .int .i64 0, .string ⟨#[]⟩, .int .i64 0, .pointer none]] y fun en w' => en = .returned (.tuple #[]) ∧ (∃ SB', Sea w' n m T sB sm cb base (.slice (some ⟨rb, 0, none⟩) 2 rc) (.slice va (n + m) vc) 0 ((Aw.sysOf n L K X L' K' X' f).iadd [] ⟨u, u', []⟩) SB') ∧ Fr sB sm base y w') := show ∀ y, _ from fun y hb => by
      have h := reach_any n m T M Lc (sK Kc ls) (sK Xc ls) L K X L' K' X' f sB sm cb base (.slice (some ⟨rb, 0, none⟩) 2 rc) (.slice va (n + m) vc) 0 [] (fun _ => 0) ⟨u, u', []⟩ zeroV none none none y HOK.out.1.root HOK.out.2.root (by simp) (HSea5.out.below hb) (HTb5.out.below hb) (show ∀ i, _ from fun i hi => by
        obtain ⟨cs, k1, k2, k3⟩ := HCl5.out
        exact World.rowIs.cell (f := fun i => .int .i64 (f i : Nat)) ⟨cs, blkB k1 hb, k2, k3⟩ hi) HLow (show ∀ x ∈ [], _ from fun x hx => by cases hx) (Or.inl ⟨rfl, rfl⟩)
      simp only at h
      rw [HXV.out.1, HXV.out.2] at h
      refine h.mono ?_
      rintro en w' ⟨h1, ⟨SB', h2, _⟩, h3⟩
      exact ⟨h1, ⟨SB', h2⟩, h3⟩
    clear hbb hbase
    refine Code.wpIn_mono NoPanic.imp ?_
    refine wpIn_region_heldR (ro := none) (S := fun y => Fr sB sm base w5 y) (by kernel_rfl) (by kernel_rfl) (fun ⟨a, w', h⟩ => ?_) (Fr.below (Below.refl _ _).drew) (fun hHeld => ?_)
    · obtain ⟨h, _⟩ := h
      rcases h with ⟨_, _, _, _, _, _, e, _⟩ | ⟨_, e⟩ <;> cases e
    generalize hwd : w5.drew = wd at hHeld ⊢
    have hbd : Below w5.heap.size w5 wd := by rw [← hwd]; exact (Below.refl _ _).drew
    clear hwd
    refine wpT (i := 0) (v := ptr sB) rfl (fun w hSw => ?_) hHeld ?_
    · have q0 := HB7.out w hSw; first | rfl | go_simp
    simp only [Act.put, pz]
    refine wpT (i := 1) (v := .pointer (some ⟨cc, 0, none⟩)) rfl (fun w hSw => ?_) hHeld ?_
    · first | rfl | go_simp
    simp only [Act.put, pz]
    refine wpT (i := 2) (v := .slice (some ⟨rb, 0, none⟩) 2 rc) rfl (fun w hSw => ?_) hHeld ?_
    · have q0 := HCC0.out w hSw; first | rfl | go_simp
    simp only [Act.put, pz]
    refine wpT (i := 3) (v := .pointer (some ⟨rb, 0, none⟩)) rfl (fun w hSw => ?_) hHeld ?_
    · first | rfl | go_simp
    simp only [Act.put, pz]
    refine wpT (i := 4) (v := .iface ut uy) rfl (fun w hSw => ?_) hHeld ?_
    · have q0 := (HRR.out w hSw).1; first | rfl | go_simp
    simp only [Act.put, pz]
    refine wpT (i := 5) (v := .pointer (some ⟨cc, 0, none⟩)) rfl (fun w hSw => ?_) hHeld ?_
    · first | rfl | go_simp
    simp only [Act.put, pz]
    refine wpT (i := 6) (v := .slice (some ⟨rb, 0, none⟩) 2 rc) rfl (fun w hSw => ?_) hHeld ?_
    · have q0 := HCC0.out w hSw; first | rfl | go_simp
    simp only [Act.put, pz]
    refine wpT (i := 7) (v := .pointer (some ⟨rb, 1, none⟩)) rfl (fun w hSw => ?_) hHeld ?_
    · first | rfl | go_simp
    simp only [Act.put, pz]
    refine wpT (i := 8) (v := .iface vt vy) rfl (fun w hSw => ?_) hHeld ?_
    · have q0 := (HRR.out w hSw).2; first | rfl | go_simp
    simp only [Act.put, pz]
    refine wpT (i := 9) (v := .agg #[.pointer none, .pointer none, .int .i64 0, .int .i64 0, .string ⟨#[]⟩, .int .i64 0, .pointer none]) rfl (fun w hSw => ?_) hHeld ?_
    · first | rfl | go_simp
    simp only [Act.put, pz]
    refine wpAnyH_ready (rs := [10]) (by kernel_rfl) (by simp) ?_
    refine AllReadyH.cons rfl (fun KK hK' => ?_) AllReadyH.nil
    have hcall := HRC.out wd hbd
    go_simp
    refine hcall.mono ?_
    clear hcall
    rintro en w6 ⟨rfl, ⟨SB1, hsea6⟩, hfr6⟩
    have HF6 : Hid (Fr sB sm base w5 w6) := Fr.trans hHeld hfr6
    have HS6 : Hid (Sea w6 n m T sB sm cb base (.slice (some ⟨rb, 0, none⟩) 2 rc) (.slice va (n + m) vc) 0 ((Aw.sysOf n L K X L' K' X' f).iadd [] ⟨u, u', []⟩) SB1) := hsea6
    refine hK'.out _ _ HF6.out (fun _ => ?_)
    clear hK' hsea6 hfr6 hHeld hbd
    refine wpAnyH_done (by kernel_rfl) (NoPanic.normal ?_) _
    have c7 := HB7.out w6 HF6.out
    gi_wp2_with fail
    refine ⟨trivial, (callsIn_wideR (ro := none) (all_any sB w6)).mono ?_⟩
    rintro en w7 ⟨rfl, rfl⟩
    clear c7
    gi_wp2
    have HB6 : Hid (Below w.heap.size w w6) := by
      have h5 := HB5.out
      have hf := HF6.out
      have hnum := HNum.out
      have hbs := HBase.out
      have h1 := HB1.out.size
      refine ⟨hf.os.trans h5.os, hf.tape.trans h5.tape, hf.output.trans h5.output, Nat.le_trans h5.size hf.size, fun k hk => (hf.block k (Nat.lt_of_lt_of_le hk h5.size) (fun hp => ?_)).trans (h5.block k hk)⟩
      rcases hp with e | e | ⟨hb, _⟩ <;> omega
    obtain ⟨w7, hw7⟩ : ∃ w7, w7 = w6.alloc (.cells #[.pointer (some ⟨sB, 3, none⟩)] 170) := ⟨_, rfl⟩
    have hb7' : Below w6.heap.size w6 w7 := by rw [hw7]; exact (Below.refl _ _).alloc (Nat.le_refl _) _
    have hx7 : w7.heap[w6.heap.size]? = some (.cells #[.pointer (some ⟨sB, 3, none⟩)] 170 (0, 0)) := by rw [hw7]; exact heap_alloc_new _ _
    rw [← hw7]
    clear hw7
    have hs7 := hb7'.size
    have h6s := HB6.out.size
    have HC4 : Hid (w6.heap[b4]? = some (.cells #[.slice none 0 0] 42 (0, 0))) := by
      rw [← hb4]
      exact HSea5.out.keep HF6.out (blkB HC1.out F5.out.2.2.2.2.2) (by decide) (by decide)
    have h4lo : w.heap.size ≤ b4 := by omega
    refine apLoop n m T M Lc (sK Kc ls) (sK Xc ls) L K X L' K' X' ls f u u' sB sm cb base b4 b7 w6.heap.size (.slice (some ⟨rb, 0, none⟩) 2 rc) (.slice va (n + m) vc) SB1 w w7 HOK.out.1 HOK.out.2 HJn.out HLow.out HMs.out ⟨by have := HNum.out; have := HB1.out.size; omega, by have := HNum.out; have := HB1.out.size; omega, by omega⟩ h4lo ?h0 rfl ?hassign ?hbody ?htm ?hdone ?hstop
    case h0 =>
      intro R0
      have A9 := alloc2 w7 (.deferred (some [])) (.loop R0)
      obtain ⟨w9, hw9⟩ : ∃ w9, w9 = (w7.alloc (.deferred (some []))).alloc (.loop R0) := ⟨_, rfl⟩
      rw [← hw9] at A9 ⊢
      have hb9 : Below w6.heap.size w6 w9 := grw hb7' A9.2.2.2
      obtain ⟨cs, k1, k2, k3⟩ := HCl5.out
      exact ⟨.start, HS6.out.below hb9, ⟨(HSea5.out.tbs HF6.out HTb5.out HMs.out).below hb9, ⟨cs, blkB (HSea5.out.keep HF6.out k1 (by decide) (by decide)) hb9, k2, k3⟩, blkB (HSea5.out.keep HF6.out F5.out.2.2.2.1 (by decide) (by decide)) hb9, blkB HC4.out hb9, blkB hx7 A9.2.2.2, A9.2.1, A9.1, grw HB6.out hb9⟩⟩
    case hassign =>
      intro l s W K hK
      simp only [List.setIfInBounds_toArray, List.set_cons_zero, List.set_cons_succ] at hK
      gi_wp2
      exact hK
    case hbody => simp only [Tryz.f15, Option.bind_some, rfBody, Option.orElse]
    case htm =>
      intro s
      simp only [List.setIfInBounds_toArray, List.set_cons_zero, List.set_cons_succ]
      exact ⟨_, _, _, _, _, _, _, _, _, _, _, _, _, _, _, _, _, _, _, _, _, _, _, _, _, _, _, _, _, _, _, _, _, _, _, _, _, _, _, _, _, _, _, _, _, _, _, _, _, _, _, _, _, _, _, _, _, _, _, _, _, _, _, _, _, _, _, _, _, _, _, _, _, _, _, _, _, _, _, _, _, _, _, _, _, _, _, _, _, _, _, _, rfl⟩
    case hdone =>
      intro W hJd
      have hD := hJd.dfr
      have h4 := hJd.c4
      obtain ⟨z0, z1⟩ := one_at h4
      have HJd : Hid _ := hJd
      clear hJd hD h4
      gi_wp2
      have h4 := HJd.out.c4
      have hD : (W.setCell ⟨b4, 0, none⟩ (.slice none 0 0)).heap[w7.heap.size]? = some (.deferred (some [])) := (Below.heap_setCell _ _ _ _ (fun e => by have := HJd.out.dfr; rw [e, h4] at this; cases this)).trans HJd.out.dfr
      refine ⟨by simp, .inl ⟨_, _, rfl, run_takeDeferred hD, ?_⟩⟩
      have h4' : ((W.setCell ⟨b4, 0, none⟩ (.slice none 0 0)).putObj w7.heap.size (.deferred none)).heap[b4]? = some (.cells #[.slice none 0 0] 42 (0, 0)) := (World.putObj_heap_other (fun e => by rw [← e, one_put h4] at hD; cases hD)).trans (one_put h4 _)
      refine ⟨.slice none 0 0, res_apart _ _ _ _ _ _ rfl (one_at h4').1, Or.inl ⟨HOK.out, f, _, [], HCls.out, HFz.out, rfl, HJd.out.done, World.ownsRow_nil _ _ _ _⟩, ?_⟩
      have ho := only_put (W.setCell ⟨b4, 0, none⟩ (.slice none 0 0)) w7.heap.size (.deferred none)
      have hbs := HJd.out.bel.setCell (p := ⟨b4, 0, none⟩) h4lo (.slice none 0 0)
      exact hbs.trans (ho.toBelow (fun k e => by omega) hbs.size)
    case hstop =>
      intro W v ans hJd
      obtain ⟨oa, oc, rfl, hob⟩ := owns_form hJd.own
      have HJd : Hid _ := hJd
      clear hJd
      gi_wp2
      have h4 := HJd.out.c4
      have hD := HJd.out.dfr
      refine ⟨by simp, .inl ⟨_, _, rfl, run_takeDeferred hD, ?_⟩⟩
      have ho := only_put W w7.heap.size (.deferred none)
      have h4' : (W.putObj w7.heap.size (.deferred none)).heap[b4]? = some (.cells #[.slice oa ans.length oc] 42 (0, 0)) := (World.putObj_heap_other (fun e => by rw [← e, h4] at hD; cases hD)).trans h4
      refine ⟨_, res_apart _ _ _ _ _ _ rfl (one_at h4').1, Or.inl ⟨HOK.out, f, _, ans, HCls.out, HFz.out, rfl, HJd.out.done, Only.ownsB ho HJd.out.own (fun g hg e => ?_)⟩, HJd.out.bel.trans (ho.toBelow (fun k e => by omega) HJd.out.bel.size)⟩
      obtain ⟨_, cur, hc⟩ := owns_type HJd.out.own hg
      rw [e, hD] at hc
      cases hc
  · have HN : Hid (¬ (OkG n u L K X ∧ OkG m u' L' K' X')) := by
      rw [HGd.out] at hno
      rcases (show q = 0 ∨ q = 1 by omega) with rfl | rfl
      · exact (show ¬ (OkG n u L K X ∧ OkG m u' L' K' X') from fun h => hno h.1)
      · exact (show ¬ (OkG n u L K X ∧ OkG m u' L' K' X') from fun h => hno h.2)
    obtain ⟨w2, hw2⟩ : ∃ w2, w2 = w1.alloc (.cells #[.slice none 0 0, .slice none 0 0, .slice none 0 0] 95) := ⟨_, rfl⟩
    have HB2 : Hid (Below w.heap.size w w2) := grw HB1.out (by rw [hw2]; exact (Below.refl _ _).alloc (Nat.le_refl _) _)
    have HC2 : Hid (w2.heap[b4]? = some (.cells #[.slice none 0 0] 42 (0, 0))) := by rw [← hb4]; rw [hw2]; exact (Below.heap_alloc _ _ _ (blk_lt HC1.out)).trans HC1.out
    obtain ⟨c0, c1⟩ := one_at HC2.out
    rw [hw2] at c0 c1
    have HL4 : Hid (w.heap.size ≤ b4) := show _ ≤ _ by omega
    rw [show w.heap.size + 1 + 1 = b4 from hb4]
    clear hb4
    gi_wp2
    rw [← hw2]
    refine ⟨.slice none 0 0, res_apart _ _ _ _ _ _ rfl (one_at (one_put HC2.out _)).1, Or.inr ⟨HN.out, rfl⟩, ?_⟩
    exact HB2.out.setCell (p := ⟨b4, 0, none⟩) HL4.out _

end Go.Proofs.YtgflalfiopnmnaaGreatDoor

namespace Go.Proofs.YtgflalfiopnmnaaGreatDoor
open Go.RowKit Vl

theorem cells4' {w : World} {B : Nat} {a b c d : Value} {t : TypeId} (H : w.heap[B]? = some (.cells #[a, b, c, d] t (0, 0))) : w.cell? ⟨B, 0, none⟩ = some a ∧ w.cell? ⟨B, 1, none⟩ = some b ∧ w.cell? ⟨B, 2, none⟩ = some c ∧ w.cell? ⟨B, 3, none⟩ = some d ∧ ∀ i, w.frozen? ⟨B, i, none⟩ = false := by
  refine ⟨?_, ?_, ?_, ?_, fun i => ?_⟩ <;> simp [World.cell?, World.frozen?, H]

end Go.Proofs.YtgflalfiopnmnaaGreatDoor
