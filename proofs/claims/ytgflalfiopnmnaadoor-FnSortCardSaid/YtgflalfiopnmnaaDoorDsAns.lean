import Derived.Test.YtgflalfiopnmnaaDoorDsCur
import Derived.Deep.CutRange
namespace Go.Proofs.YtgflalfiopnmnaaDoor
open Go.RowKit Rk So

theorem OM.only {w w' : World} {base : Nat} {v : Value} {n : Nat} {L B : Nat → Nat} {M : Nat → Nat → Int} (h : OM w base v n L B M) {P : Nat → Prop} (ho : Only P w w') (hP : ∀ g, base ≤ g → ¬ P g) : OM w' base v n L B M :=
  ⟨ho.owns h.own (fun g hg _ => hP g hg), fun j hj => ⟨(h.rows j hj).1, ho.rowIs (h.rows j hj).2 (hP _ (h.rows j hj).1)⟩⟩
theorem CurS.setOther {w : World} {CB t : Nat} {sl : Value} (h : CurS w CB sl t) {p : Addr} (hp : CB ≠ p.block) (u : Value) : CurS (w.setCell p u) CB sl t := by
  obtain ⟨a, sd, ha, hb⟩ := h.ex
  exact ⟨a, sd, ha, by rw [Below.heap_setCell _ _ _ _ hp]; exact hb⟩
theorem CurS.alloc {w : World} {CB t : Nat} {sl : Value} (h : CurS w CB sl t) (o : Obj) : CurS (w.alloc o) CB sl t := by
  obtain ⟨a, sd, ha, hb⟩ := h.ex
  exact ⟨a, sd, ha, by rw [Below.heap_alloc _ _ _ (lt_of_block hb)]; exact hb⟩
theorem CurS.mono {w : World} {CB t t' : Nat} {sl : Value} (h : CurS w CB sl t) (ht : t ≤ t') : CurS w CB sl t' := by
  obtain ⟨a, sd, ha, hb⟩ := h.ex
  exact ⟨a, sd, by omega, hb⟩
theorem Only.setNew {P : Nat → Prop} {a w : World} (h : Only P a w) {p : Addr} (hp : a.heap.size ≤ p.block) (v : Value) : Only P a (w.setCell p v) :=
  ⟨h.os, h.tape, h.output, by simpa [World.setCell] using h.size, fun k hk hn => by rw [Below.heap_setCell _ _ _ _ (by omega), h.block k hk hn]⟩
theorem Only.allocNew {P : Nat → Prop} {a w : World} (h : Only P a w) (o : Obj) : Only P a (w.alloc o) :=
  h.trans (Only.below ((Below.refl _ _).alloc (Nat.le_refl _) o))
theorem Only.thenBelow {P : Nat → Prop} {a b c : World} (h : Only P a b) (hb : Below a.heap.size b c) : Only P a c :=
  ⟨hb.os.trans h.os, hb.tape.trans h.tape, hb.output.trans h.output, Nat.le_trans h.size hb.size, fun k hk hn => by rw [hb.block k hk, h.block k hk hn]⟩

/-- A row of numbers, whatever they are. -/
def RowX (w : World) (b n : Nat) : Prop := ∃ f : Nat → Int, w.rowIs b 3 n (fun c => .int .i64 (f c))
theorem RowX.only {w w' : World} {b n : Nat} (h : RowX w b n) {P : Nat → Prop} (ho : Only P w w') (hP : ¬ P b) : RowX w' b n := by obtain ⟨f, hf⟩ := h; exact ⟨f, ho.rowIs hf hP⟩
theorem RowX.alloc {w : World} {b n : Nat} (h : RowX w b n) (o : Obj) : RowX (w.alloc o) b n := by obtain ⟨f, hf⟩ := h; exact ⟨f, hf.alloc o⟩
theorem RowX.set {w : World} {b n : Nat} (h : RowX w b n) (j : Nat) (x : Int) : RowX (w.setCell ⟨b, j, none⟩ (.int .i64 x)) b n := by
  obtain ⟨f, hf⟩ := h
  exact ⟨fun c => if c = j then x else f c, (hf.set j _).congr (fun i _ => by by_cases e : i = j <;> simp [e])⟩
theorem RowX.setOther {w : World} {b n : Nat} (h : RowX w b n) {p : Addr} (hp : b ≠ p.block) (u : Value) : RowX (w.setCell p u) b n := by obtain ⟨f, hf⟩ := h; exact ⟨f, hf.setOther hp u⟩
theorem RowX.made (w : World) (n : Nat) : RowX (w.alloc (.cells (madeCells #[.int .i64 0] n) 3)) w.heap.size n := ⟨fun _ => 0, World.rowIs_made w _ n 3⟩
theorem RowX.cell {w : World} {b n : Nat} (h : RowX w b n) {j : Nat} (hj : j < n) : ∃ x : Int, w.cell? ⟨b, j, none⟩ = some (.int .i64 x) := by obtain ⟨f, hf⟩ := h; exact ⟨f j, hf.cell hj⟩
theorem RowX.frozen {w : World} {b n : Nat} (h : RowX w b n) (j : Nat) : w.frozen? ⟨b, j, none⟩ = false := by obtain ⟨f, hf⟩ := h; exact hf.frozen j
theorem RowX.lt {w : World} {b n : Nat} (h : RowX w b n) : b < w.heap.size := by obtain ⟨f, hf⟩ := h; exact hf.lt

/-- The ranks are being drawn. -/
structure Rn (w0 wx : World) (CB : Nat) (sl : Value) (t rB n : Nat) : Prop where
  cur : CurS wx CB sl t
  rank : RowX wx rB n
  only : Only (fun k => k = CB) w0 wx
  cb : CB < w0.heap.size
  rb : w0.heap.size ≤ rB

theorem Rn.pick {w0 wx w' : World} {CB t rB n : Nat} {sl : Value} (h : Rn w0 wx CB sl t rB n) (hc : CurS w' CB sl (t + 1)) (ho : Only (fun k => k = CB) wx w') : Rn w0 w' CB sl (t + 1) rB n :=
  ⟨hc, h.rank.only ho (by have := h.cb; have := h.rb; omega), h.only.trans ho, h.cb, h.rb⟩
theorem Rn.store {w0 wx : World} {CB t rB n : Nat} {sl : Value} (h : Rn w0 wx CB sl t rB n) (j : Nat) (x : Int) : Rn w0 (wx.setCell ⟨rB, j, none⟩ (.int .i64 x)) CB sl t rB n :=
  ⟨h.cur.setOther (by have := h.cb; have := h.rb; show CB ≠ rB; omega) _, h.rank.set j x, h.only.setNew h.rb _, h.cb, h.rb⟩

/-- A row of answers is being drawn. -/
structure Bd (w0 wx : World) (CB : Nat) (sl : Value) (t rowB rB n : Nat) (v : Value) (k : Nat) (B : Nat → Nat) (M : Nat → Nat → Int) : Prop where
  rn : Rn w0 wx CB sl t rB n
  row : RowX wx rowB n
  om : OM wx w0.heap.size v k (fun _ => n) B M
  s1 : v.ownBlock ≠ some rowB
  s2 : ∀ j, j < k → B j ≠ rowB
  s3 : rB ≠ rowB
  s4 : w0.heap.size ≤ rowB

theorem Bd.pick {w0 wx w' : World} {CB t rowB rB n k : Nat} {sl v : Value} {B : Nat → Nat} {M : Nat → Nat → Int} (h : Bd w0 wx CB sl t rowB rB n v k B M) (hc : CurS w' CB sl (t + 1)) (ho : Only (fun k => k = CB) wx w') : Bd w0 w' CB sl (t + 1) rowB rB n v k B M :=
  ⟨h.rn.pick hc ho, h.row.only ho (by have := h.rn.cb; have := h.s4; omega), h.om.only ho (fun g hg => by have := h.rn.cb; omega), h.s1, h.s2, h.s3, h.s4⟩
theorem Bd.store {w0 wx : World} {CB t rowB rB n k : Nat} {sl v : Value} {B : Nat → Nat} {M : Nat → Nat → Int} (h : Bd w0 wx CB sl t rowB rB n v k B M) (j : Nat) (x : Int) : Bd w0 (wx.setCell ⟨rowB, j, none⟩ (.int .i64 x)) CB sl t rowB rB n v k B M :=
  ⟨⟨h.rn.cur.setOther (by have := h.rn.cb; have := h.s4; show CB ≠ rowB; omega) _, h.rn.rank.setOther h.s3 _, h.rn.only.setNew h.s4 _, h.rn.cb, h.rn.rb⟩, h.row.set j x, h.om.setOther h.s1 h.s2 _, h.s1, h.s2, h.s3, h.s4⟩
theorem Bd.drewN {w0 wx : World} {CB t rowB rB n k : Nat} {sl v : Value} {B : Nat → Nat} {M : Nat → Nat → Int} (h : Bd w0 wx CB sl t rowB rB n v k B M) (m : Nat) : Bd w0 (wx.drewN m) CB sl t rowB rB n v k B M :=
  ⟨⟨h.rn.cur.drewN m, h.rn.rank, h.rn.only.drewN m, h.rn.cb, h.rn.rb⟩, h.row, h.om.drewN m, h.s1, h.s2, h.s3, h.s4⟩
theorem Bd.mono {w0 wx : World} {CB t t' rowB rB n k : Nat} {sl v : Value} {B : Nat → Nat} {M : Nat → Nat → Int} (h : Bd w0 wx CB sl t rowB rB n v k B M) (ht : t ≤ t') : Bd w0 wx CB sl t' rowB rB n v k B M :=
  ⟨⟨h.rn.cur.mono ht, h.rn.rank, h.rn.only, h.rn.cb, h.rn.rb⟩, h.row, h.om, h.s1, h.s2, h.s3, h.s4⟩
theorem Bd.start {w0 wx : World} {CB t rB n k : Nat} {sl v : Value} {B : Nat → Nat} {M : Nat → Nat → Int} (h : Rn w0 wx CB sl t rB n) (hm : OM wx w0.heap.size v k (fun _ => n) B M) : Bd w0 (wx.alloc (.cells (madeCells #[.int .i64 0] n) 3)) CB sl t wx.heap.size rB n v k B M := by
  refine ⟨⟨h.cur.alloc _, h.rank.alloc _, h.only.allocNew _, h.cb, h.rb⟩, RowX.made _ _, hm.alloc _, fun e => ?_, fun j hj e => ?_, fun e => ?_, h.only.size⟩
  · rcases hm.own.2 with ⟨rfl, _⟩ | ⟨g, cap, cur, rfl, _, hh, _⟩
    · simp [Value.ownBlock] at e
    · simp [Value.ownBlock] at e
      have := lt_of_block hh
      omega
  · have := (hm.rows j hj).2.lt
    omega
  · have := h.rank.lt
    omega

theorem grown_row {w w1 : World} {base k l n : Nat} {v : Value} {xs : List Value} {f : Nat → Value} (ho : w.ownsRow base 25 1 v n xs) (o : Obj) (hg : (w.alloc o).grownBy w1 v.ownBlock) (hr : w.rowIs k 3 l f) : w1.rowIs k 3 l f := by
  obtain ⟨c, hc, r⟩ := hr
  refine ⟨c, ?_, r⟩
  rw [hg.block k (by have := lt_of_block hc; simp; omega) (fun e => ?_), Below.heap_alloc _ _ _ (lt_of_block hc)]
  · exact hc
  · rcases ho.2 with ⟨rfl, _⟩ | ⟨g, cap, cur, rfl, _, hh, _⟩
    · simp [Value.ownBlock] at e
    · simp [Value.ownBlock] at e
      subst e
      rw [hc] at hh
      cases hh
theorem grown_cur {w w1 : World} {base CB t n : Nat} {v sl : Value} {xs : List Value} (ho : w.ownsRow base 25 1 v n xs) (o : Obj) (hg : (w.alloc o).grownBy w1 v.ownBlock) (hr : CurS w CB sl t) (hb : CB < base) : CurS w1 CB sl t := by
  obtain ⟨a, sd, ha, hc⟩ := hr.ex
  refine ⟨a, sd, ha, ?_⟩
  rw [hg.block CB (by have := lt_of_block hc; simp; omega) (fun e => ?_), Below.heap_alloc _ _ _ (lt_of_block hc)]
  · exact hc
  · rcases ho.2 with ⟨rfl, _⟩ | ⟨g, cap, cur, rfl, hge, hh, _⟩
    · simp [Value.ownBlock] at e
    · simp [Value.ownBlock] at e
      omega

end Go.Proofs.YtgflalfiopnmnaaDoor
