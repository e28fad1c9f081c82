import Derived.Test.YtgflalfiopnmnaaGreatDoorT0
import Derived.Test.YtgflalfiopnmnaaGreatDoorKyText
import Derived.Test.YtgflalfiopnmnaaGreatDoorVlOrd
import Derived.Test.YtgflalfiopnmnaaGreatDoorVlSp
import Derived.Test.YtgflalfiopnmnaaGreatDoorOnlyB
import Derived.MapKept
import Derived.Deep.AppendLies
namespace Go.Proofs.YtgflalfiopnmnaaGreatDoor
open Go.RowKit Vl

section
variable {w w' : World} {CB : Nat} {ca : Option Addr} {cl cc cb co t t' : Nat}

def keyP (v : V) : Prop := v.s.size ≤ 500 ∧ isK v = true ∧ -9223372036854775808 ≤ v.n ∧ v.n ≤ 9223372036854775807
def valP (n : Nat) (v : V) : Prop := v.s.size ≤ 500 ∧ isV n v = true ∧ v.k ≠ 0 ∧ -9223372036854775808 ≤ v.n ∧ v.n ≤ 9223372036854775807
theorem keyP_bool {z : Nat} (hz : z < 2) : keyP ⟨1, z, ⟨#[]⟩, 0⟩ := by
  refine ⟨Nat.zero_le _, ?_, by simp only; omega, by simp only; omega⟩
  have : z = 0 ∨ z = 1 := by omega
  rcases this with rfl | rfl <;> (unfold isK isV; simp)
theorem keyP_text {s : ByteArray} (hs : s.size ≤ 500) : keyP ⟨3, 0, s, 0⟩ := by
  refine ⟨hs, ?_, by simp, by simp⟩
  unfold isK isV
  simp [hs]
theorem keyP_int {q : Int} (h1 : -9223372036854775808 ≤ q) (h2 : q ≤ 9223372036854775807) : keyP ⟨2, q, ⟨#[]⟩, 0⟩ := by
  refine ⟨Nat.zero_le _, ?_, h1, h2⟩
  unfold isK isV
  simp
theorem valP_key {n : Nat} {v : V} (h : keyP v) : valP n v := by
  obtain ⟨h1, h2, h3⟩ := h
  unfold isK at h2
  simp only [Bool.and_eq_true, Bool.or_eq_true, beq_iff_eq] at h2
  have hk : v.k ≠ 4 ∧ v.k ≠ 0 := by omega
  refine ⟨h1, ?_, hk.2, h3⟩
  have := h2.2
  unfold isV at this ⊢
  simp only [hk.1, if_false] at this ⊢
  exact this
theorem valP_tab {n q : Nat} (hq : q < n) : valP n ⟨4, 0, ⟨#[]⟩, q⟩ := by
  refine ⟨Nat.zero_le _, ?_, by simp, by simp, by simp⟩
  unfold isV
  simp
  omega

theorem only_set {a b : World} {P : Nat → Prop} (h : Only P a b) {p : Addr} (hp : a.heap.size ≤ p.block) (v : Value) : Only P a (b.setCell p v) :=
  h.thenBelow ((Below.refl a.heap.size b).setCell hp v) (Nat.le_refl _)

theorem four {w : World} {B : Nat} {a b c d : Value} {t : TypeId} (h : w.heap[B]? = some (.cells #[a, b, c, d] t (0, 0))) :
    w.cell? ⟨B, 0, none⟩ = some a ∧ w.cell? ⟨B, 1, none⟩ = some b ∧ w.cell? ⟨B, 2, none⟩ = some c ∧ w.cell? ⟨B, 3, none⟩ = some d ∧ ∀ i, w.frozen? ⟨B, i, none⟩ = false := by
  refine ⟨?_, ?_, ?_, ?_, fun i => ?_⟩ <;> simp [World.cell?, World.frozen?, h]

theorem put4_at {w : World} {B : Nat} {a b c d : Value} {t : TypeId} (h : w.heap[B]? = some (.cells #[a, b, c, d] t (0, 0))) (a' b' c' d' : Value) :
    ((((w.setCell ⟨B, 0, none⟩ a').setCell ⟨B, 1, none⟩ b').setCell ⟨B, 2, none⟩ c').setCell ⟨B, 3, none⟩ d').heap[B]? = some (.cells #[a', b', c', d'] t (0, 0)) := by
  simp [World.setCell, Array.getElem?_modify, h]
theorem put4_below (w : World) (B : Nat) (a' b' c' d' : Value) : Below B w ((((w.setCell ⟨B, 0, none⟩ a').setCell ⟨B, 1, none⟩ b').setCell ⟨B, 2, none⟩ c').setCell ⟨B, 3, none⟩ d') :=
  ((((Below.refl B w).setCell (Nat.le_refl _) _).setCell (Nat.le_refl _) _).setCell (Nat.le_refl _) _).setCell (Nat.le_refl _) _

def Empty4 (w : World) (B : Nat) : Prop := w.heap[B]? = some (.cells #[.int .i64 0, .int .i64 0, .string ⟨#[]⟩, .int .i64 0] 24 (0, 0))
theorem Empty4.only {w w' : World} {B CB : Nat} (h : Empty4 w B) (ho : Only (fun k => k = CB) w w') (hne : B ≠ CB) : Empty4 w' B := (ho.block B (lt_of_block h) hne).trans h
theorem Empty4.new (w : World) : Empty4 (w.alloc (.cells #[.int .i64 0, .int .i64 0, .string ⟨#[]⟩, .int .i64 0] 24)) w.heap.size := heap_alloc_new _ _

end

end Go.Proofs.YtgflalfiopnmnaaGreatDoor

namespace Go.Proofs.YtgflalfiopnmnaaGreatDoor
open Go.RowKit Vl

def VAt (w : World) (b o : Nat) (v : V) : Prop := ValAt w b o v.k v.n v.s v.a
theorem VAt.below {w w' : World} {b o : Nat} {v : V} (h : VAt w b o v) (hb : Below w.heap.size w w') : VAt w' b o v := ValAt.below h hb

structure PairsAt (w : World) (pa : Option Addr) (L B O : Nat) (K X : Nat → V) : Prop where
  top : 0 < L → pa = some ⟨B, O, none⟩
  key : ∀ c, c < L → VAt w B (O + c * 8) (K c)
  val : ∀ c, c < L → VAt w B (O + c * 8 + 4) (X c)
theorem PairsAt.below {w w' : World} {pa : Option Addr} {L B O : Nat} {K X : Nat → V} (h : PairsAt w pa L B O K X) (hb : Below w.heap.size w w') : PairsAt w' pa L B O K X :=
  ⟨h.top, fun c hc => (h.key c hc).below hb, fun c hc => (h.val c hc).below hb⟩

structure TabsAt (w : World) (ta : Option Addr) (n TB TO : Nat) (A : Nat → Option Addr) (L C RB RO : Nat → Nat) (K X : Nat → Nat → V) : Prop where
  top : 0 < n → ta = some ⟨TB, TO, none⟩
  tab : ∀ r, r < n → w.cell? ⟨TB, TO + r, none⟩ = some (.slice (A r) (L r) (C r))
  row : ∀ r, r < n → PairsAt w (A r) (L r) (RB r) (RO r) (K r) (X r)
theorem TabsAt.below {w w' : World} {ta : Option Addr} {n TB TO : Nat} {A : Nat → Option Addr} {L C RB RO : Nat → Nat} {K X : Nat → Nat → V} (h : TabsAt w ta n TB TO A L C RB RO K X) (hb : Below w.heap.size w w') : TabsAt w' ta n TB TO A L C RB RO K X :=
  ⟨h.top, fun r hr => (hb.cell (p := ⟨TB, TO + r, none⟩) (World.block_lt_of_cell? _ _ (h.tab r hr))).trans (h.tab r hr), fun r hr => (h.row r hr).below hb⟩

theorem PairsAt.cells {w : World} {pa : Option Addr} {L B O : Nat} {K X : Nat → V} (h : PairsAt w pa L B O K X) {c : Nat} (hc : c < L) :
    (w.cell? ⟨B, O + c * 8, none⟩ = some (.int .i64 (K c).k) ∧ w.cell? ⟨B, O + c * 8 + 1, none⟩ = some (.int .i64 (K c).n) ∧ w.cell? ⟨B, O + c * 8 + 2, none⟩ = some (.string (K c).s) ∧ w.cell? ⟨B, O + c * 8 + 3, none⟩ = some (.int .i64 (K c).a)) ∧
    (w.cell? ⟨B, O + c * 8 + 4, none⟩ = some (.int .i64 (X c).k) ∧ w.cell? ⟨B, O + c * 8 + 5, none⟩ = some (.int .i64 (X c).n) ∧ w.cell? ⟨B, O + c * 8 + 6, none⟩ = some (.string (X c).s) ∧ w.cell? ⟨B, O + c * 8 + 7, none⟩ = some (.int .i64 (X c).a)) := ⟨h.key c hc, h.val c hc⟩

end Go.Proofs.YtgflalfiopnmnaaGreatDoor

namespace Go.Proofs.YtgflalfiopnmnaaGreatDoor
open Go.RowKit Vl

def Small (m n : Nat) (L : Nat → Nat) (K X : Nat → Nat → V) : Prop := ∀ r, r < n → L r ≤ m ∧ ∀ c, c < L r → (K r c).s.size ≤ m ∧ (X r c).s.size ≤ m

end Go.Proofs.YtgflalfiopnmnaaGreatDoor

namespace Go.Proofs.YtgflalfiopnmnaaGreatDoor
open Go.RowKit Vl

theorem cells8 {w : World} {B : Nat} {a b c d e f g h : Value} {t : TypeId} (H : w.heap[B]? = some (.cells #[a, b, c, d, e, f, g, h] t (0, 0))) :
    w.cell? ⟨B, 0, none⟩ = some a ∧ w.cell? ⟨B, 1, none⟩ = some b ∧ w.cell? ⟨B, 2, none⟩ = some c ∧ w.cell? ⟨B, 3, none⟩ = some d ∧ w.cell? ⟨B, 4, none⟩ = some e ∧ w.cell? ⟨B, 5, none⟩ = some f ∧ w.cell? ⟨B, 6, none⟩ = some g ∧ w.cell? ⟨B, 7, none⟩ = some h ∧ ∀ i, w.frozen? ⟨B, i, none⟩ = false := by
  refine ⟨?_, ?_, ?_, ?_, ?_, ?_, ?_, ?_, fun i => ?_⟩ <;> simp [World.cell?, World.frozen?, H]
theorem set4_below {w : World} {B i j k l : Nat} {a' b' c' d' : Value} : Below B w ((((w.setCell ⟨B, i, none⟩ a').setCell ⟨B, j, none⟩ b').setCell ⟨B, k, none⟩ c').setCell ⟨B, l, none⟩ d') :=
  ((((Below.refl B w).setCell (Nat.le_refl _) _).setCell (Nat.le_refl _) _).setCell (Nat.le_refl _) _).setCell (Nat.le_refl _) _
theorem blk_lt {w : World} {b : Nat} {o : Obj} (h : w.heap[b]? = some o) : b < w.heap.size := by
  rcases Nat.lt_or_ge b w.heap.size with h' | h'
  · exact h'
  · rw [Array.getElem?_eq_none h'] at h; cases h

theorem alloc3 (w : World) (a b c : Obj) : (((w.alloc a).alloc b).alloc c).heap[w.heap.size]? = some a ∧ (((w.alloc a).alloc b).alloc c).heap[w.heap.size + 1]? = some b ∧ (((w.alloc a).alloc b).alloc c).heap[w.heap.size + 2]? = some c ∧ (((w.alloc a).alloc b).alloc c).heap.size = w.heap.size + 3 ∧ Below w.heap.size w (((w.alloc a).alloc b).alloc c) := by
  have e1 : (w.alloc a).heap.size = w.heap.size + 1 := by simp
  have e2 : ((w.alloc a).alloc b).heap.size = w.heap.size + 2 := by simp
  have e3 : (((w.alloc a).alloc b).alloc c).heap.size = w.heap.size + 3 := by simp
  refine ⟨?_, ?_, ?_, e3, (((Below.refl _ _).alloc (Nat.le_refl _) _).alloc (by omega) _).alloc (by omega) _⟩
  · rw [Below.heap_alloc _ _ _ (by omega), Below.heap_alloc _ _ _ (by omega)]; exact heap_alloc_new _ _
  · rw [Below.heap_alloc _ _ _ (by omega), ← e1]; exact heap_alloc_new _ _
  · rw [← e2]; exact heap_alloc_new _ _

theorem run_make_n (t e : TypeId) (z : Value) (size bytes : Nat) (ht : Tryz.prog.underlying t = some (.slice e)) (hinfo : (Tryz.prog.info? e).map (fun i => (i.zero, i.size, i.bytes)) = some (some z, size, bytes))
    (n : Nat) (hbytes : bytes * n ≤ 281474976710656) (h63 : n ≤ 9223372036854775807) (w : World) :
    (Instr.makeSlice t (.int .i64 (n : Int)) (.int .i64 (n : Int))).run Tryz.prog w = .ok (.slice (some ⟨w.heap.size, 0, none⟩) n n) (w.alloc (.cells (madeCells z.cells (n * size)) e)) := by
  obtain ⟨i, hi, hz, hs, hb⟩ := info_parts hinfo
  subst hs hb
  have hb' : (i.bytes : Int) * (n : Int) ≤ 281474976710656 := by
    have h : ((i.bytes * n : Nat) : Int) ≤ 281474976710656 := by omega
    rwa [Int.natCast_mul] at h
  have hr := run_make (P := Tryz.prog) w t e i z ht hi hz .i64 .i64 n n (by omega) (Int.le_refl _) hb' (by omega)
  simp only [Int.toNat_natCast] at hr
  exact hr
theorem row_made (w : World) (zc : Array Value) (n : Nat) (t : TypeId) : (w.alloc (.cells (madeCells zc n) t)).rowIs w.heap.size t n (fun i => zc[i % zc.size]!) :=
  ⟨_, heap_alloc_new _ _, size_madeCells _ _, fun i hi => by simp [madeCells, hi]⟩

def pc (K X : Nat → V) (i : Nat) : Value :=
  if i % 8 = 0 then .int .i64 (K (i / 8)).k else if i % 8 = 1 then .int .i64 (K (i / 8)).n else if i % 8 = 2 then .string (K (i / 8)).s else if i % 8 = 3 then .int .i64 (K (i / 8)).a
  else if i % 8 = 4 then .int .i64 (X (i / 8)).k else if i % 8 = 5 then .int .i64 (X (i / 8)).n else if i % 8 = 6 then .string (X (i / 8)).s else .int .i64 (X (i / 8)).a

def PRow (w : World) (B n c : Nat) (K X : Nat → V) (z : Nat → Value) : Prop := w.rowIs B 39 (n * 8) (fun i => if i < c * 8 then pc K X i else z i)

theorem PRow.below {w w' : World} {B n c : Nat} {K X : Nat → V} {z : Nat → Value} (h : PRow w B n c K X z) (hb : Below w.heap.size w w') : PRow w' B n c K X z := h.of_block (hb.block B h.lt)

theorem Tryz.info39 : (Tryz.prog.info? 39).map (fun i => (i.zero, i.size, i.bytes)) = some (some (.agg #[.int .i64 0, .int .i64 0, .string ⟨#[]⟩, .int .i64 0, .int .i64 0, .int .i64 0, .string ⟨#[]⟩, .int .i64 0]), 8, 80) := by kernel_rfl

end Go.Proofs.YtgflalfiopnmnaaGreatDoor

namespace Go.Proofs.YtgflalfiopnmnaaGreatDoor
open Go.RowKit Vl

theorem VAt.same {w w' : World} {b o : Nat} {v : V} (h : VAt w b o v) (e : w'.heap[b]? = w.heap[b]?) : VAt w' b o v :=
  ⟨by rw [World.cell?_of_block e]; exact h.1, by rw [World.cell?_of_block e]; exact h.2.1, by rw [World.cell?_of_block e]; exact h.2.2.1, by rw [World.cell?_of_block e]; exact h.2.2.2⟩
theorem PairsAt.same {w w' : World} {pa : Option Addr} {L B O : Nat} {K X : Nat → V} (h : PairsAt w pa L B O K X) (e : w'.heap[B]? = w.heap[B]?) : PairsAt w' pa L B O K X :=
  ⟨h.top, fun c hc => (h.key c hc).same e, fun c hc => (h.val c hc).same e⟩
theorem one_at {w : World} {B : Nat} {a : Value} {t : TypeId} (H : w.heap[B]? = some (.cells #[a] t (0, 0))) : w.cell? ⟨B, 0, none⟩ = some a ∧ ∀ i, w.frozen? ⟨B, i, none⟩ = false := by
  refine ⟨?_, fun i => ?_⟩ <;> simp [World.cell?, World.frozen?, H]
theorem one_put {w : World} {B : Nat} {a : Value} {t : TypeId} (H : w.heap[B]? = some (.cells #[a] t (0, 0))) (a' : Value) : (w.setCell ⟨B, 0, none⟩ a').heap[B]? = some (.cells #[a'] t (0, 0)) := by
  simp [World.setCell, Array.getElem?_modify, H]

structure Copied (w0 w : World) (c : Nat) (G L : Nat → Nat) (K X : Nat → Nat → V) : Prop where
  new : ∀ r, r < c → w0.heap.size < G r ∧ G r < w.heap.size
  inc : ∀ i j, i < j → j < c → G i < G j
  row : ∀ r, r < c → PairsAt w (some ⟨G r, 0, none⟩) (L r) (G r) 0 (K r) (X r)
  blk : ∀ r, r < c → ∃ f, w.rowIs (G r) 39 (L r * 8) f

theorem Copied.below {w0 w w' : World} {c : Nat} {G L : Nat → Nat} {K X : Nat → Nat → V} (h : Copied w0 w c G L K X) (hb : Below w.heap.size w w') : Copied w0 w' c G L K X :=
  ⟨fun r hr => ⟨(h.new r hr).1, Nat.lt_of_lt_of_le (h.new r hr).2 hb.size⟩, h.inc, fun r hr => (h.row r hr).below hb, fun r hr => by obtain ⟨f, hf⟩ := h.blk r hr; exact ⟨f, hf.of_block (hb.block _ hf.lt)⟩⟩
theorem Copied.set {w0 w : World} {c : Nat} {G L : Nat → Nat} {K X : Nat → Nat → V} (h : Copied w0 w c G L K X) (i : Nat) (v : Value) : Copied w0 (w.setCell ⟨w0.heap.size, i, none⟩ v) c G L K X :=
  ⟨fun r hr => ⟨(h.new r hr).1, by simp only [World.setCell, Array.size_modify]; exact (h.new r hr).2⟩, h.inc, fun r hr => (h.row r hr).same (Below.heap_setCell _ _ _ _ (by have := (h.new r hr).1; show G r ≠ w0.heap.size; omega)), fun r hr => by obtain ⟨f, hf⟩ := h.blk r hr; exact ⟨f, hf.of_block (Below.heap_setCell _ _ _ _ (by have := (h.new r hr).1; show G r ≠ w0.heap.size; omega))⟩⟩
theorem Tryz.info37 : (Tryz.prog.info? 37).map (fun i => (i.zero, i.size, i.bytes)) = some (some (.agg #[.slice none 0 0]), 1, 24) := by kernel_rfl

end Go.Proofs.YtgflalfiopnmnaaGreatDoor

namespace Go.Proofs.YtgflalfiopnmnaaGreatDoor
open Go.RowKit Vl

theorem cells5 {w : World} {B : Nat} {a b c d e : Value} {t : TypeId} (H : w.heap[B]? = some (.cells #[a, b, c, d, e] t (0, 0))) :
    w.cell? ⟨B, 0, none⟩ = some a ∧ w.cell? ⟨B, 1, none⟩ = some b ∧ w.cell? ⟨B, 2, none⟩ = some c ∧ w.cell? ⟨B, 3, none⟩ = some d ∧ w.cell? ⟨B, 4, none⟩ = some e ∧ ∀ i, w.frozen? ⟨B, i, none⟩ = false := by
  refine ⟨?_, ?_, ?_, ?_, ?_, fun i => ?_⟩ <;> simp [World.cell?, World.frozen?, H]
theorem put5lo {w : World} {B : Nat} {a b c d e : Value} {t : TypeId} (H : w.heap[B]? = some (.cells #[a, b, c, d, e] t (0, 0))) (a' b' c' d' : Value) :
    ((((w.setCell ⟨B, 0, none⟩ a').setCell ⟨B, 1, none⟩ b').setCell ⟨B, 2, none⟩ c').setCell ⟨B, 3, none⟩ d').heap[B]? = some (.cells #[a', b', c', d', e] t (0, 0)) := by
  simp [World.setCell, Array.getElem?_modify, H]
theorem put5hi {w : World} {B : Nat} {a b c d e : Value} {t : TypeId} (H : w.heap[B]? = some (.cells #[a, b, c, d, e] t (0, 0))) (e' : Value) :
    (w.setCell ⟨B, 4, none⟩ e').heap[B]? = some (.cells #[a, b, c, d, e'] t (0, 0)) := by
  simp [World.setCell, Array.getElem?_modify, H]

theorem Copied.tabs {w0 w : World} {n : Nat} {G L : Nat → Nat} {K X : Nat → Nat → V} {B : Nat} (h : Copied w0 w n G L K X) (hr : w.rowIs B 37 n (fun i => .slice (some ⟨G i, 0, none⟩) (L i) (L i))) :
    TabsAt w (some ⟨B, 0, none⟩) n B 0 (fun r => some ⟨G r, 0, none⟩) L L G (fun _ => 0) K X :=
  ⟨fun _ => rfl, fun r hr' => by rw [Nat.zero_add]; exact hr.cell hr', h.row⟩

end Go.Proofs.YtgflalfiopnmnaaGreatDoor

namespace Go.Proofs.YtgflalfiopnmnaaGreatDoor
open Go.RowKit Vl

theorem alloc2 (w : World) (a b : Obj) : ((w.alloc a).alloc b).heap[w.heap.size]? = some a ∧ ((w.alloc a).alloc b).heap[w.heap.size + 1]? = some b ∧ ((w.alloc a).alloc b).heap.size = w.heap.size + 2 ∧ Below w.heap.size w ((w.alloc a).alloc b) := by
  have e1 : (w.alloc a).heap.size = w.heap.size + 1 := by simp
  have e2 : ((w.alloc a).alloc b).heap.size = w.heap.size + 2 := by simp
  refine ⟨?_, ?_, e2, ((Below.refl _ _).alloc (Nat.le_refl _) _).alloc (by omega) _⟩
  · rw [Below.heap_alloc _ _ _ (by omega)]; exact heap_alloc_new _ _
  · rw [← e1]; exact heap_alloc_new _ _

end Go.Proofs.YtgflalfiopnmnaaGreatDoor

namespace Go.Proofs.YtgflalfiopnmnaaGreatDoor
open Go.RowKit Vl

end Go.Proofs.YtgflalfiopnmnaaGreatDoor

namespace Go.Proofs.YtgflalfiopnmnaaGreatDoor.Vl
open Go

theorem less_asymm {a b : V} (h : less a b = true) : less b a = false := by
  unfold less at h ⊢
  by_cases hk : a.k = b.k
  · rw [if_pos hk] at h
    rw [if_pos hk.symm]
    by_cases h3 : a.k = 3
    · rw [if_pos h3] at h
      rw [if_pos (by omega), ← bl_total, h]
      rfl
    · rw [if_neg h3] at h
      rw [if_neg (by omega)]
      simp at h ⊢
      omega
  · rw [if_neg hk] at h
    rw [if_neg (fun e => hk e.symm)]
    simp at h ⊢
    omega

def eqV (a b : V) : Bool := a.k == b.k && (a.n == b.n && (a.s.toList == b.s.toList && a.a == b.a))

theorem key_a {v : V} (h : isK v = true) : v.a = 0 := by
  obtain ⟨k, n, s, a⟩ := v
  simp only [isK, Bool.and_eq_true, Bool.or_eq_true, beq_iff_eq] at h
  obtain ⟨hk, hv⟩ := h
  rcases hk with (rfl | rfl) | rfl <;> simp [isV] at hv <;> (show a = 0; omega)

theorem ko_zero {a b : V} (h : ko a b ≠ 2) : (ko a b == 0) = eqV a b := by
  unfold ko at h ⊢
  by_cases hk : (isK a && isK b) = true
  · rw [if_pos hk]
    obtain ⟨ha, hb⟩ := Bool.and_eq_true_iff.1 hk
    rw [Bool.eq_iff_iff]
    constructor
    · intro h0
      have h1 : less a b = false := by cases hl : less a b <;> simp [hl] at h0 ⊢
      have h2 : less b a = false := by cases hl : less b a <;> simp [hl, h1] at h0 ⊢
      unfold less at h1 h2
      have e : a.k = b.k := by
        by_cases hk : a.k = b.k
        · exact hk
        · rw [if_neg hk] at h1
          rw [if_neg (fun e => hk e.symm)] at h2
          simp at h1 h2
          omega
      rw [if_pos e] at h1
      rw [if_pos e.symm] at h2
      have za := key_a ha
      have zb := key_a hb
      have ca := key_cases ha
      have cb := key_cases hb
      by_cases h3 : a.k = 3
      · rw [if_pos h3] at h1
        rw [if_pos (by omega), ← bl_total, h1] at h2
        have hs : a.s.toList = b.s.toList := by simpa using h2
        have na : a.n = 0 := by rcases ca with h | h | h <;> first | exact h.2 | omega
        have nb : b.n = 0 := by rcases cb with h | h | h <;> first | exact h.2 | omega
        simp [eqV, e, hs, na, nb, za, zb]
      · rw [if_neg h3] at h1
        rw [if_neg (by omega)] at h2
        simp at h1 h2
        have sa : a.s.toList = [] := by rcases ca with h | h | h <;> first | exact h.2 | omega
        have sb : b.s.toList = [] := by rcases cb with h | h | h <;> first | exact h.2 | omega
        have hn : a.n = b.n := by omega
        simp [eqV, e, hn, sa, sb, za, zb]
    · intro he
      simp only [eqV, Bool.and_eq_true, beq_iff_eq] at he
      obtain ⟨e1, e2, e3, e4⟩ := he
      have h1 : less a b = false := by simp [less, e1, e2, e3, bl_irrefl]
      have h2 : less b a = false := by simp [less, e1, e2, e3, bl_irrefl]
      simp [h1, h2]
  · rw [if_neg hk] at h; exact absurd rfl h

end Go.Proofs.YtgflalfiopnmnaaGreatDoor.Vl

namespace Go.Proofs.YtgflalfiopnmnaaGreatDoor.Vl

structure OkP (n : Nat) (K X : Nat → V) (c : Nat) : Prop where
  key : isK (K c) = true
  val : isV n (X c) = true
  some : (X c).k ≠ 0
  once : ∀ j, j < c → eqV (K j) (K c) = false

structure OkT (n L : Nat) (K X : Nat → V) : Prop where
  len : L ≤ 100
  all : ∀ c, c < L → OkP n K X c

structure OkG (n : Nat) (u : V) (L : Nat → Nat) (K X : Nat → Nat → V) : Prop where
  len : n ≤ 200
  root : isV n u = true
  all : ∀ r, r < n → OkT n (L r) (K r) (X r)

end Go.Proofs.YtgflalfiopnmnaaGreatDoor.Vl

namespace Go.Proofs.YtgflalfiopnmnaaGreatDoor
open Go.RowKit Vl

theorem eql_val (u v : V) (w : World) :
    (binOp .eql 24 (.agg #[.int .i64 u.k, .int .i64 u.n, .string u.s, .int .i64 u.a]) (.agg #[.int .i64 v.k, .int .i64 v.n, .string v.s, .int .i64 v.a])).run Tryz.prog w = .ok (.bool (eqV u v)) w := by
  go_simp
  by_cases h1 : u.k = v.k <;> by_cases h2 : u.n = v.n <;> by_cases h3 : u.s.toList = v.s.toList <;> by_cases h4 : u.a = v.a <;> simp [eqV, h1, h2, h3, h4]

def Tells (P : Prop) (e : Ending) : Prop := ∃ b, e = .returned (.bool b) ∧ (b = true ↔ P)
theorem tells_no {P : Prop} (h : ¬ P) : Tells P (.returned (.bool false)) := ⟨false, rfl, by simp; exact h⟩
theorem tells_yes {P : Prop} (h : P) : Tells P (.returned (.bool true)) := ⟨true, rfl, by simp; exact h⟩

theorem VAt.cells {w : World} {b o : Nat} {v : V} (h : VAt w b o v) : w.cell? ⟨b, o, none⟩ = some (.int .i64 v.k) ∧ w.cell? ⟨b, o + 1, none⟩ = some (.int .i64 v.n) ∧ w.cell? ⟨b, o + 2, none⟩ = some (.string v.s) ∧ w.cell? ⟨b, o + 3, none⟩ = some (.int .i64 v.a) := h

set_option maxHeartbeats 2000000 in
set_option maxRecDepth 100000 in
theorem specOk_any (u : V) (ta : Option Addr) (n cp TB TO : Nat) (A : Nat → Option Addr) (L C RB RO : Nat → Nat) (K X : Nat → Nat → V) (w : World) (hn : n ≤ 1048576)
    (HS : Hid (Small 1048576 n L K X)) (HT : Hid (TabsAt w ta n TB TO A L C RB RO K X)) :
    Calls Tryz.prog 17 #[.agg #[.int .i64 u.k, .int .i64 u.n, .string u.s, .int .i64 u.a, .slice ta n cp]] w fun e w' => Tells (OkG n u L K X) e ∧ Below w.heap.size w w' := by
  obtain ⟨w0, hw0⟩ : ∃ w0, w0 = w.alloc (.cells #[.int .i64 u.k, .int .i64 u.n, .string u.s, .int .i64 u.a, .slice ta n cp] 27) := ⟨_, rfl⟩
  have H0 : Hid (w0.heap[w.heap.size]? = some (.cells #[.int .i64 u.k, .int .i64 u.n, .string u.s, .int .i64 u.a, .slice ta n cp] 27 (0, 0))) := by rw [hw0]; exact heap_alloc_new _ _
  have HB0 : Hid (Below w.heap.size w w0) := by rw [hw0]; exact (Below.refl _ _).alloc (Nat.le_refl _) _
  have HT0 : Hid (TabsAt w0 ta n TB TO A L C RB RO K X) := HT.out.below HB0.out
  by_cases h200 : n ≤ 200
  · obtain ⟨bu, Hbu⟩ : ∃ b, Hid (isV n u = b) := ⟨_, rfl⟩
    have hv := l2val_any u.k u.n u.s u.a ta n cp u w0
    rw [Hbu.out] at hv
    obtain ⟨g0, g1, g2, g3, g4, _⟩ := cells5 H0.out
    go_enter Tryz.func17, Tryz.ntmps17
    go_wp2_with fail
    rw [← hw0]
    refine hv.mono ?_
    clear hv
    rintro e w1 ⟨rfl, hb1⟩
    have HW1 : Hid (Below w0.heap.size w0 w1) := hb1
    clear hb1 hw0 g0 g1 g2 g3 g4
    cases bu
    · go_wp2
      go_ret
      exact ⟨tells_no (fun h => by have := h.root; rw [Hbu.out] at this; cases this), grw HB0.out HW1.out⟩
    · have H1 : Hid (w1.heap[w.heap.size]? = some (.cells #[.int .i64 u.k, .int .i64 u.n, .string u.s, .int .i64 u.a, .slice ta n cp] 27 (0, 0))) := (HW1.out.block _ (blk_lt H0.out)).trans H0.out
      obtain ⟨g0, g1, g2, g3, g4, _⟩ := cells5 H1.out
      go_wp2
      clear g0 g1 g2 g3 g4 H1
      go_loopw [22] (fun i wr => ∃ r : Nat, r ≤ n ∧ i = .int .i64 r ∧ Hid (∀ q, q < r → OkT n (L q) (K q) (X q)) ∧ Hid (Below w0.heap.size w0 wr)) (fun i _ => n - (intOf i).toNat)
      case atStart => exact ⟨0, Nat.zero_le _, rfl, fun q hq => absurd hq (Nat.not_lt_zero _), HW1⟩
      case round =>
        obtain ⟨r, hr, rfl, HQ, HW⟩ := hrel
        by_cases hlt : r < n
        · obtain rfl := HT0.out.top (by omega)
          have t0 := (HT0.out.below HW.out).tab r hlt
          obtain ⟨a, ha⟩ : ∃ a, A r = a := ⟨_, rfl⟩
          rw [ha] at t0
          by_cases hl : L r ≤ 100
          · obtain ⟨wt, hwt⟩ : ∃ wt, wt = wr.alloc (.cells #[.slice a (L r) (C r)] 37) := ⟨_, rfl⟩
            have HBt : Hid (Below wr.heap.size wr wt) := by rw [hwt]; exact (Below.refl _ _).alloc (Nat.le_refl _) _
            have Ht : Hid (wt.heap[wr.heap.size]? = some (.cells #[.slice a (L r) (C r)] 37 (0, 0))) := by rw [hwt]; exact heap_alloc_new _ _
            go_wp2
            rw [← hwt]
            have HP : Hid (PairsAt wt a (L r) (RB r) (RO r) (K r) (X r)) := ha ▸ ((HT0.out.below HW.out).below HBt.out).row r hlt
            have HWt : Hid (Below w0.heap.size w0 wt) := grw HW.out HBt.out
            clear hwt t0
            obtain ⟨bt, hbt⟩ : ∃ bt, wr.heap.size = bt := ⟨_, rfl⟩
            rw [hbt] at Ht ⊢
            clear HBt hbt
            go_loopw [33] (fun i wc => ∃ c : Nat, c ≤ L r ∧ i = .int .i64 c ∧ Hid (∀ q, q < c → OkP n (K r) (X r) q) ∧ Hid (Below wt.heap.size wt wc)) (fun i _ => L r - (intOf i).toNat)
            case atStart => exact ⟨0, Nat.zero_le _, rfl, fun q hq => absurd hq (Nat.not_lt_zero _), Below.refl _ _⟩
            case round =>
              obtain ⟨c, hc, rfl, HQc, HWc⟩ := hrel
              by_cases hcl : c < L r
              · obtain rfl := HP.out.top (by omega)
                obtain ⟨⟨k0, k1, k2, k3⟩, ⟨x0, x1, x2, x3⟩⟩ := (HP.out.below HWc.out).cells hcl
                obtain ⟨wp, hwp⟩ : ∃ wp, wp = wr.alloc (.cells #[.int .i64 (K r c).k, .int .i64 (K r c).n, .string (K r c).s, .int .i64 (K r c).a, .int .i64 (X r c).k, .int .i64 (X r c).n, .string (X r c).s, .int .i64 (X r c).a] 39) := ⟨_, rfl⟩
                have HBp : Hid (Below wr.heap.size wr wp) := by rw [hwp]; exact (Below.refl _ _).alloc (Nat.le_refl _) _
                have Hp : Hid (wp.heap[wr.heap.size]? = some (.cells #[.int .i64 (K r c).k, .int .i64 (K r c).n, .string (K r c).s, .int .i64 (K r c).a, .int .i64 (X r c).k, .int .i64 (X r c).n, .string (X r c).s, .int .i64 (X r c).a] 39 (0, 0))) := by rw [hwp]; exact heap_alloc_new _ _
                have HWp : Hid (Below wt.heap.size wt wp) := grw HWc.out HBp.out
                obtain ⟨bk, hbk⟩ : ∃ b, isK (K r c) = b := ⟨_, rfl⟩
                obtain ⟨bx, hbx⟩ : ∃ b, isV n (X r c) = b := ⟨_, rfl⟩
                have hlk := l2key_any (K r c) wp
                rw [hbk] at hlk
                go_wp2_with fail
                rw [← hwp]
                refine hlk.mono ?_
                clear hlk
                rintro e w2 ⟨rfl, hb2⟩
                have HW2 : Hid (Below wt.heap.size wt w2) := grw HWp.out hb2
                have HP2 : Hid (w2.heap[wr.heap.size]? = some (.cells #[.int .i64 (K r c).k, .int .i64 (K r c).n, .string (K r c).s, .int .i64 (K r c).a, .int .i64 (X r c).k, .int .i64 (X r c).n, .string (X r c).s, .int .i64 (X r c).a] 39 (0, 0))) := (hb2.block _ (blk_lt Hp.out)).trans Hp.out
                obtain ⟨bp, hbp⟩ : ∃ bp, wr.heap.size = bp := ⟨_, rfl⟩
                rw [hbp] at HP2 ⊢
                clear hb2 hwp HBp Hp HWp hbp k0 k1 k2 k3 x0 x1 x2 x3 HWc
                cases bk
                · have HN : Hid (¬ OkG n u L K X) := show ¬ OkG n u L K X from fun h => by have := ((h.all r hlt).all c hcl).key; rw [hbk] at this; cases this
                  clear hbk hbx
                  go_wp2
                  go_ret
                  exact ⟨tells_no HN.out, grw HB0.out (grw HWt.out HW2.out)⟩
                · obtain ⟨c0, c1, c2, c3, c4, c5, c6, c7, _⟩ := cells8 HP2.out
                  have HG2 : Hid (w2.heap[w.heap.size]? = some (.cells #[.int .i64 u.k, .int .i64 u.n, .string u.s, .int .i64 u.a, .slice (some ⟨TB, TO, none⟩) n cp] 27 (0, 0))) := ((grw HWt.out HW2.out).block _ (blk_lt H0.out)).trans H0.out
                  obtain ⟨g0, g1, g2, g3, g4, _⟩ := cells5 HG2.out
                  have hlv := l2val_any u.k u.n u.s u.a (some ⟨TB, TO, none⟩) n cp (X r c) w2
                  rw [hbx] at hlv
                  go_wp2_with fail
                  refine hlv.mono ?_
                  clear hlv
                  rintro e w3 ⟨rfl, hb3⟩
                  have HW3 : Hid (Below wt.heap.size wt w3) := grw HW2.out hb3
                  have HP3 : Hid (w3.heap[bp]? = some (.cells #[.int .i64 (K r c).k, .int .i64 (K r c).n, .string (K r c).s, .int .i64 (K r c).a, .int .i64 (X r c).k, .int .i64 (X r c).n, .string (X r c).s, .int .i64 (X r c).a] 39 (0, 0))) := (hb3.block _ (blk_lt HP2.out)).trans HP2.out
                  clear hb3 HG2 HP2 HW2 c0 c1 c2 c3 c4 c5 c6 c7 g0 g1 g2 g3 g4
                  cases bx
                  · have HN : Hid (¬ OkG n u L K X) := show ¬ OkG n u L K X from fun h => by have := ((h.all r hlt).all c hcl).val; rw [hbx] at this; cases this
                    clear hbk hbx
                    go_wp2
                    go_ret
                    exact ⟨tells_no HN.out, grw HB0.out (grw HWt.out HW3.out)⟩
                  · obtain ⟨c0, c1, c2, c3, c4, c5, c6, c7, _⟩ := cells8 HP3.out
                    by_cases hx0 : (X r c).k = 0
                    · have HN : Hid (¬ OkG n u L K X) := show ¬ OkG n u L K X from fun h => ((h.all r hlt).all c hcl).some hx0
                      have hx0' : ((X r c).k == 0) = true := by simpa using hx0
                      clear hbk hbx hx0
                      go_wp2
                      go_ret
                      exact ⟨tells_no HN.out, grw HB0.out (grw HWt.out HW3.out)⟩
                    · have hx0' : ((X r c).k == 0) = false := by simpa using hx0
                      have HX0 : Hid ((X r c).k ≠ 0) := hx0
                      have HBK : Hid (isK (K r c) = true) := hbk
                      have HBX : Hid (isV n (X r c) = true) := hbx
                      clear hbk hbx hx0
                      go_wp2
                      clear c0 c1 c2 c3 c4 c5 c6 c7 hx0'
                      go_loopw [7] (fun i wk => ∃ k : Nat, k ≤ c ∧ i = .int .i64 k ∧ Hid (∀ q, q < k → eqV (K r q) (K r c) = false) ∧ Hid (Below w3.heap.size w3 wk)) (fun i _ => c - (intOf i).toNat)
                      case atStart => exact ⟨0, Nat.zero_le _, rfl, fun q hq => absurd hq (Nat.not_lt_zero _), Below.refl _ _⟩
                      case round =>
                        obtain ⟨k, hk, rfl, HQk, HWk⟩ := hrel
                        by_cases hkc : k < c
                        · obtain ⟨l0, l1, l2, l3⟩ := (((HP.out.below (grw HW3.out HWk.out))).cells (show k < L r by omega)).1
                          have HPk : Hid (wr.heap[bp]? = some (.cells #[.int .i64 (K r c).k, .int .i64 (K r c).n, .string (K r c).s, .int .i64 (K r c).a, .int .i64 (X r c).k, .int .i64 (X r c).n, .string (X r c).s, .int .i64 (X r c).a] 39 (0, 0))) := (HWk.out.block _ (blk_lt HP3.out)).trans HP3.out
                          obtain ⟨c0, c1, c2, c3, c4, c5, c6, c7, _⟩ := cells8 HPk.out
                          have Htk : Hid (wr.heap[bt]? = some (.cells #[.slice (some ⟨RB r, RO r, none⟩) (L r) (C r)] 37 (0, 0))) := ((grw HW3.out HWk.out).block _ (blk_lt Ht.out)).trans Ht.out
                          obtain ⟨t0, _⟩ := one_at Htk.out
                          have heq := eql_val (K r k) (K r c)
                          obtain ⟨be, hbe⟩ : ∃ b, eqV (K r k) (K r c) = b := ⟨_, rfl⟩
                          rw [hbe] at heq
                          cases be
                          · have HQ' : Hid (∀ q, q < k + 1 → eqV (K r q) (K r c) = false) := show ∀ q, q < k + 1 → _ from fun q hq => by
                              by_cases e : q = k
                              · subst e; exact hbe
                              · exact HQk.out q (by omega)
                            clear hbe HQk
                            go_wp2
                            go_quiet (fail)
                            go_wp2
                            go_roundw
                            case rel => exact ⟨k + 1, by omega, by go_num, HQ', below_drewN HWk.out nq⟩
                            case measure => simp [intOf]; omega
                          · have HN : Hid (¬ OkG n u L K X) := show ¬ OkG n u L K X from fun h => by have := ((h.all r hlt).all c hcl).once k hkc; rw [hbe] at this; cases this
                            clear hbe HQk
                            go_wp2
                            go_quiet (fail)
                            go_wp2
                            go_ret
                            exact ⟨tells_no HN.out, below_drewN (grw HB0.out (grw HWt.out (grw HW3.out HWk.out))) nq⟩
                        · obtain rfl : k = c := by omega
                          have HQ' : Hid (∀ q, q < k + 1 → OkP n (K r) (X r) q) := show ∀ q, q < k + 1 → _ from fun q hq => by
                            by_cases e : q = k
                            · subst e; exact ⟨HBK.out, HBX.out, HX0.out, HQk.out⟩
                            · exact HQc.out q (by omega)
                          go_wp2
                          go_roundw
                          case rel => exact ⟨k + 1, by omega, by go_num, HQ', grw HW3.out HWk.out⟩
                          case measure => simp [intOf]; omega
              · obtain rfl : c = L r := by omega
                have HQ' : Hid (∀ q, q < r + 1 → OkT n (L q) (K q) (X q)) := show ∀ q, q < r + 1 → _ from fun q hq => by
                  by_cases e : q = r
                  · subst e; exact ⟨hl, HQc.out⟩
                  · exact HQ.out q (by omega)
                go_wp2
                go_roundw
                case rel => exact ⟨r + 1, by omega, by go_num, HQ', grw HWt.out HWc.out⟩
                case measure => simp [intOf]; omega
          · have HN : Hid (¬ OkG n u L K X) := show ¬ OkG n u L K X from fun h => hl (h.all r hlt).len
            go_wp2
            go_ret
            refine ⟨tells_no HN.out, grw HB0.out (HW.out.alloc ?_ _)⟩
            exact HW.out.size
        · obtain rfl : r = n := by omega
          go_wp2
          go_ret
          exact ⟨tells_yes ⟨h200, Hbu.out, HQ.out⟩, grw HB0.out HW.out⟩
  · have HN : Hid (¬ OkG n u L K X) := show ¬ OkG n u L K X from fun h => h200 h.len
    have hgt : 200 < n := by omega
    obtain ⟨g0, g1, g2, g3, g4, _⟩ := cells5 H0.out
    rw [hw0] at HB0
    clear H0 HT0 hw0 g0 g1 g2 g3 g4
    go_enter Tryz.func17, Tryz.ntmps17
    go_wp2
    go_ret
    exact ⟨tells_no HN.out, HB0.out⟩

end Go.Proofs.YtgflalfiopnmnaaGreatDoor

namespace Go.Proofs.YtgflalfiopnmnaaGreatDoor
open Go.RowKit Vl

abbrev vAgg (v : V) : Value := .agg #[.int .i64 v.k, .int .i64 v.n, .string v.s, .int .i64 v.a]

theorem equal_val (u v : V) (w : World) : (Op.equal 24 (vAgg u) (vAgg v)).run Tryz.prog w = .ok (eqV u v) w := by
  unfold Op.equal Op.maxDepth
  go_simp
  by_cases h1 : u.k = v.k <;> by_cases h2 : u.n = v.n <;> by_cases h3 : u.s.toList = v.s.toList <;> by_cases h4 : u.a = v.a <;> simp [eqV, h1, h2, h3, h4]

theorem check_val (em : Bool) (v : V) (w : World) : (Instr.checkKey em 10000 24 (vAgg v)).run Tryz.prog w = .ok () w := by
  kernel_rfl

def findV (v : V) : List (V × Value) → Option Value
  | [] => none
  | (k, x) :: l => if eqV v k = true then some x else findV v l

theorem find_val (v : V) (w : World) : ∀ (es : List MapEntry) (l : List (V × Value)) (i : Nat), es.map (fun e => (e.key, e.val)) = l.map (fun p => (vAgg p.1, p.2)) →
    (findV v l = none → (Instr.findAsking 24 (vAgg v) es i).run Tryz.prog w = .ok none w) ∧ (∀ x, findV v l = some x → ∃ j, (Instr.findAsking 24 (vAgg v) es i).run Tryz.prog w = .ok (some (j, x)) w)
  | [], [], i, _ => ⟨fun _ => rfl, fun x h => by cases h⟩
  | [], _ :: _, i, h => by simp at h
  | _ :: _, [], i, h => by simp at h
  | e :: es, (k, x) :: l, i, h => by
    simp only [List.map_cons, List.cons.injEq, Prod.mk.injEq] at h
    obtain ⟨⟨h1, h2⟩, h3⟩ := h
    have ih := find_val v w es l (i + 1) h3
    have e1 : (Instr.findAsking 24 (vAgg v) (e :: es) i).run Tryz.prog w = if eqV v k = true then .ok (some (i, e.val)) w else (Instr.findAsking 24 (vAgg v) es (i + 1)).run Tryz.prog w := by
      conv => lhs; unfold Instr.findAsking
      rw [Sem.run_bind, h1, equal_val]
      simp only [Result.andThen_ok]
      cases eqV v k <;> simp
    rw [e1]
    unfold findV
    by_cases he : eqV v k = true
    · rw [if_pos he, if_pos he, h2]
      exact ⟨fun h => (by cases h), fun y h => ⟨i, by cases h; rfl⟩⟩
    · rw [if_neg he, if_neg he]
      exact ih

theorem find_key (v : V) (w : World) (es : List MapEntry) (l : List (V × Value)) (h : es.map (fun e => (e.key, e.val)) = l.map (fun p => (vAgg p.1, p.2))) :
    (findV v l = none → (Instr.findKey 24 (vAgg v) es).run Tryz.prog w = .ok none w) ∧ (∀ x, findV v l = some x → ∃ j, (Instr.findKey 24 (vAgg v) es).run Tryz.prog w = .ok (some (j, x)) w) := by
  have hf := find_val v w es l 0 h
  have e1 : (Instr.findKey 24 (vAgg v) es).run Tryz.prog w = (Instr.findAsking 24 (vAgg v) es 0).run Tryz.prog w := by
    unfold Instr.findKey
    rw [Sem.run_bind, run_underlying Tryz.underlying24]
    simp only [Result.andThen_ok]
    cases es with
    | nil => rfl
    | cons e es => rfl
  rw [e1]
  exact hf

def MapIs (w : World) (M : Nat) (l : List (V × Value)) : Prop := ∃ es clk, w.heap[M]? = some (.map es clk) ∧ es.toList.map (fun e => (e.key, e.val)) = l.map (fun p => (vAgg p.1, p.2))

theorem MapIs.same {w w' : World} {M : Nat} {l : List (V × Value)} (h : MapIs w M l) (e : w'.heap[M]? = w.heap[M]?) : MapIs w' M l := by
  obtain ⟨es, clk, h1, h2⟩ := h
  exact ⟨es, clk, e.trans h1, h2⟩
theorem MapIs.lt {w : World} {M : Nat} {l : List (V × Value)} (h : MapIs w M l) : M < w.heap.size := by
  obtain ⟨es, clk, h1, _⟩ := h
  exact blk_lt h1

theorem MapIs.lookup {w : World} {M : Nat} {l : List (V × Value)} (h : MapIs w M l) (v : V) :
    (Instr.lookup 119 (.map (some M)) (vAgg v) true).run Tryz.prog w = .ok (.tuple #[(findV v l).getD .nilIface, .bool (findV v l).isSome]) w ∧
    (Instr.lookup 119 (.map (some M)) (vAgg v) false).run Tryz.prog w = .ok ((findV v l).getD .nilIface) w := by
  obtain ⟨es, clk, hb, hl⟩ := h
  have hk := find_key v w es.toList l hl
  have hz : (zeroValue 54).run Tryz.prog w = .ok .nilIface w := by kernel_rfl
  cases hf : findV v l with
  | none =>
    have h1 := hk.1 hf
    constructor <;> simp [Instr.lookup, run_underlying Tryz.underlying119, MapKept.run_getObj_map hb, check_val, h1, hz, Result.andThen]
  | some x =>
    obtain ⟨j, h1⟩ := hk.2 x hf
    constructor <;> simp [Instr.lookup, run_underlying Tryz.underlying119, MapKept.run_getObj_map hb, check_val, h1, Result.andThen]

theorem MapIs.update {w : World} {M : Nat} {l : List (V × Value)} (h : MapIs w M l) (v : V) (x : Value) (hf : findV v l = none) :
    ∃ w', (Instr.mapUpdate 119 (.map (some M)) (vAgg v) x).run Tryz.prog w = .ok () w' ∧ MapIs w' M (l ++ [(v, x)]) ∧ Only (fun k => k = M) w w' ∧ w'.heap.size = w.heap.size := by
  obtain ⟨es, clk, hb, hl⟩ := h
  have hk := (find_key v w es.toList l hl).1 hf
  refine ⟨{ w with heap := w.heap.setIfInBounds M (.map (es.push { key := vAgg v, val := x, born := clk }) (clk + 1)) }, ?_, ?_, ?_, by simp⟩
  · simp [Instr.mapUpdate, run_underlying Tryz.underlying119, MapKept.run_getObj_map hb, check_val, hk, Result.andThen, MapKept.run_setObj_map _ hb]
  · refine ⟨_, _, by rw [Array.getElem?_setIfInBounds_self_of_lt (blk_lt hb)], ?_⟩
    simp [hl]
  · refine ⟨rfl, rfl, rfl, by simp, fun k _ hk => ?_⟩
    show (w.heap.setIfInBounds M _)[k]? = w.heap[k]?
    rw [Array.getElem?_setIfInBounds_ne (fun e => hk e.symm)]

end Go.Proofs.YtgflalfiopnmnaaGreatDoor

namespace Go.Proofs.YtgflalfiopnmnaaGreatDoor
open Go.RowKit Vl

def TabB (w : World) (T M : Nat) (i : Int) (ord : Value) : Prop := w.heap[T]? = some (.cells #[.int .i64 i, .map (some M), ord] 121 (0, 0))

theorem TabB.cells {w : World} {T M : Nat} {i : Int} {ord : Value} (h : TabB w T M i ord) :
    w.cell? ⟨T, 0, none⟩ = some (.int .i64 i) ∧ w.cell? ⟨T, 1, none⟩ = some (.map (some M)) ∧ w.cell? ⟨T, 2, none⟩ = some ord ∧ ∀ j, w.frozen? ⟨T, j, none⟩ = false := by
  unfold TabB at h
  refine ⟨?_, ?_, ?_, fun j => ?_⟩ <;> simp [World.cell?, World.frozen?, h]
theorem TabB.put {w : World} {T M : Nat} {i : Int} {ord : Value} (h : TabB w T M i ord) (ord' : Value) : TabB (w.setCell ⟨T, 2, none⟩ ord') T M i ord' := by
  unfold TabB at h ⊢
  simp [World.setCell, Array.getElem?_modify, h]

set_option maxHeartbeats 1000000 in
set_option maxRecDepth 100000 in
theorem hasKey_any (T M : Nat) (i : Int) (ord : Value) (l : List (V × Value)) (v : V) (w : World) (HT : Hid (TabB w T M i ord)) (HM : Hid (MapIs w M l)) :
    Calls Tryz.prog 88 #[.pointer (some ⟨T, 0, none⟩), .agg #[.int .i64 v.k, .int .i64 v.n, .string v.s, .int .i64 v.a]] w fun e w' => e = .returned (.bool (findV v l).isSome) ∧ Below w.heap.size w w' := by
  obtain ⟨w0, hw0⟩ : ∃ w0, w0 = w.alloc (.cells #[.int .i64 v.k, .int .i64 v.n, .string v.s, .int .i64 v.a] 24) := ⟨_, rfl⟩
  have HB : Hid (Below w.heap.size w w0) := by rw [hw0]; exact (Below.refl _ _).alloc (Nat.le_refl _) _
  have HV : Hid (ValAt w0 w.heap.size 0 v.k v.n v.s v.a) := by rw [hw0]; exact ValAt.new w v.k v.n v.s v.a
  have hT0 : TabB w0 T M i ord := (HB.out.block T (blk_lt HT.out)).trans HT.out
  have hM0 : MapIs w0 M l := HM.out.same (HB.out.block M HM.out.lt)
  have m1 := (hM0.lookup v).1
  obtain ⟨t0, t1, t2, _⟩ := hT0.cells
  have c0 := HV.out.1; have c1 := HV.out.2.1; have c2 := HV.out.2.2.1; have c3 := HV.out.2.2.2
  simp only [Nat.zero_add] at c1 c2 c3
  have m1d : (Instr.lookup 119 (.map (some M)) (.agg #[.int .i64 v.k, .int .i64 v.n, .string v.s, .int .i64 v.a]) true).run Tryz.prog w0.drew = .ok (.tuple #[(findV v l).getD .nilIface, .bool (findV v l).isSome]) w0.drew := ((show MapIs w0.drew M l from hM0).lookup v).1
  clear hT0 hM0 HM HT
  go_enter Tryz.func88, Tryz.ntmps88
  go_wp2
  rw [← hw0]
  clear hw0
  go_region_held3 (fun w' => w'.cell? ⟨T, 1, none⟩ = some (.map (some M)) ∧ w'.cell? ⟨w.heap.size, 0, none⟩ = some (.int .i64 v.k) ∧ w'.cell? ⟨w.heap.size, 1, none⟩ = some (.int .i64 v.n) ∧ w'.cell? ⟨w.heap.size, 2, none⟩ = some (.string v.s) ∧ w'.cell? ⟨w.heap.size, 3, none⟩ = some (.int .i64 v.a) ∧ (Instr.lookup 119 (.map (some M)) (.agg #[.int .i64 v.k, .int .i64 v.n, .string v.s, .int .i64 v.a]) true).run Tryz.prog w' = .ok (.tuple #[(findV v l).getD .nilIface, .bool (findV v l).isSome]) w')
    (first | exact ⟨t1, c0, c1, c2, c3, m1d⟩)
    (fail)
  clear m1 m1d c0 c1 c2 c3 t0 t1 t2
  go_wp2
  go_ret
  exact ⟨rfl, HB.out.drew⟩

theorem Tryz.info24 : (Tryz.prog.info? 24).map (fun i => (i.zero, i.size, i.bytes)) = some (some (.agg #[.int .i64 0, .int .i64 0, .string ⟨#[]⟩, .int .i64 0]), 4, 40) := by kernel_rfl

def keyCells (ks : List V) : List Value := ks.flatMap fun v => [.int .i64 v.k, .int .i64 v.n, .string v.s, .int .i64 v.a]

structure PutEnd (w w' : World) (T M base : Nat) (i : Int) (ks : List V) (l : List (V × Value)) (v : V) (x : Value) : Prop where
  tab : ∃ ord, TabB w' T M i ord ∧ w'.ownsRow base 24 4 ord (ks ++ [v]).length (keyCells (ks ++ [v]))
  map : MapIs w' M (l ++ [(v, x)])
  only : Only (fun k => k = T ∨ k = M ∨ base ≤ k) w w'

theorem put_end {w w1 w3 : World} {T M base g cap : Nat} {i : Int} {ord x : Value} {ks : List V} {l : List (V × Value)} {v : V} {o : Obj} (hO1 : Only (fun k => k = M) w w1) (hT1 : TabB w1 T M i ord) (hM1 : MapIs w1 M (l ++ [(v, x)])) (hR1 : w1.ownsRow base 24 4 ord ks.length (keyCells ks))
    (hTM : T ≠ M) (hTb : T < base) (hMb : M < base) (hbase : base ≤ w.heap.size) (hgrow : (w1.alloc o).drew.grownBy w3 ord.ownBlock)
    (hown : w3.ownsRow base 24 4 (.slice (some ⟨g, 0, none⟩) (ks.length + 1) cap) (ks.length + 1) (keyCells ks ++ [.int .i64 v.k, .int .i64 v.n, .string v.s, .int .i64 v.a])) (hg : base ≤ g) :
    (w3.cell? ⟨T, 2, none⟩ = some ord ∧ ∀ j, w3.frozen? ⟨T, j, none⟩ = false) ∧ PutEnd w (w3.setCell ⟨T, 2, none⟩ (.slice (some ⟨g, 0, none⟩) (ks.length + 1) cap)) T M base i ks l v x := by
  have hsz : w.heap.size ≤ w1.heap.size := hO1.size
  have hbel : Below base (w1.alloc o).drew w3 := below_grown (hR1.alloc o).drew hgrow (by show base ≤ (w1.alloc o).heap.size; simp; omega)
  have hk : ∀ k, k < base → w3.heap[k]? = w1.heap[k]? := fun k hk => (hbel.block k hk).trans (Below.heap_alloc w1 o k (by omega))
  have hT3 : TabB w3 T M i ord := (hk T hTb).trans hT1
  have hc := hT3.cells
  refine ⟨⟨hc.2.2.1, hc.2.2.2⟩, ⟨_, hT3.put _, ?_⟩, ?_, ?_⟩
  · have e : (ks ++ [v]).length = ks.length + 1 := by simp
    have e2 : keyCells (ks ++ [v]) = keyCells ks ++ [.int .i64 v.k, .int .i64 v.n, .string v.s, .int .i64 v.a] := by simp [keyCells]
    rw [e, e2]
    exact ownsRow_setCell_other (a := ⟨T, 2, none⟩) hown (by simp only [Value.ownBlock, ne_eq, Option.some.injEq]; omega) _
  · exact hM1.same ((Below.heap_setCell _ _ _ _ (show M ≠ T from fun e => hTM e.symm)).trans (hk M hMb))
  · refine ⟨(by exact hbel.os.trans hO1.os), (by exact hbel.tape.trans hO1.tape), (by exact hbel.output.trans hO1.output), ?_, fun k hk' hP => ?_⟩
    · simp only [World.setCell, Array.size_modify]
      have h4 : (w1.alloc o).heap.size ≤ w3.heap.size := hbel.size
      simp at h4
      omega
    · have h1 : k ≠ T := fun e => hP (Or.inl e)
      have h2 : k ≠ M := fun e => hP (Or.inr (Or.inl e))
      have h3 : k < base := by
        rcases Nat.lt_or_ge k base with h | h
        · exact h
        · exact absurd (Or.inr (Or.inr h)) hP
      rw [Below.heap_setCell _ _ _ _ (show k ≠ T from h1), hk k h3, hO1.block k hk' h2]

set_option maxHeartbeats 1000000 in
set_option maxRecDepth 100000 in
theorem put_any (T M base : Nat) (i : Int) (ord x : Value) (ks : List V) (l : List (V × Value)) (v : V) (w : World) (HT : Hid (TabB w T M i ord)) (HM : Hid (MapIs w M l)) (hf : findV v l = none)
    (HO : Hid (w.ownsRow base 24 4 ord ks.length (keyCells ks))) (hTM : T ≠ M) (hTb : T < base) (hMb : M < base) (hbase : base ≤ w.heap.size) (hks : ks.length ≤ 1000) :
    Calls Tryz.prog 89 #[.pointer (some ⟨T, 0, none⟩), .agg #[.int .i64 v.k, .int .i64 v.n, .string v.s, .int .i64 v.a], x] w fun e w' => e = .returned (.tuple #[]) ∧ PutEnd w w' T M base i ks l v x := by
  obtain ⟨w0, hw0⟩ : ∃ w0, w0 = w.alloc (.cells #[.int .i64 v.k, .int .i64 v.n, .string v.s, .int .i64 v.a] 24) := ⟨_, rfl⟩
  have HB : Hid (Below w.heap.size w w0) := by rw [hw0]; exact (Below.refl _ _).alloc (Nat.le_refl _) _
  have HV : Hid (ValAt w0 w.heap.size 0 v.k v.n v.s v.a) := by rw [hw0]; exact ValAt.new w v.k v.n v.s v.a
  have hT0 : TabB w0 T M i ord := (HB.out.block T (blk_lt HT.out)).trans HT.out
  have hM0 : MapIs w0.drew M l := HM.out.same (HB.out.block M HM.out.lt)
  obtain ⟨w1, m1, hM1, hO1, hs1⟩ := hM0.update v x hf
  obtain ⟨t0, t1, t2, _⟩ := hT0.cells
  have c0 := HV.out.1; have c1 := HV.out.2.1; have c2 := HV.out.2.2.1; have c3 := HV.out.2.2.2
  simp only [Nat.zero_add] at c1 c2 c3
  have hMw : w.heap.size ≠ M := by omega
  have S0 : Hid (w0.drew.cell? ⟨T, 1, none⟩ = some (.map (some M)) ∧ w0.drew.cell? ⟨w.heap.size, 0, none⟩ = some (.int .i64 v.k) ∧ w0.drew.cell? ⟨w.heap.size, 1, none⟩ = some (.int .i64 v.n) ∧ w0.drew.cell? ⟨w.heap.size, 2, none⟩ = some (.string v.s) ∧ w0.drew.cell? ⟨w.heap.size, 3, none⟩ = some (.int .i64 v.a)) := show _ ∧ _ from ⟨t1, c0, c1, c2, c3⟩
  have S1 : Hid (w1.cell? ⟨T, 1, none⟩ = some (.map (some M)) ∧ w1.cell? ⟨w.heap.size, 0, none⟩ = some (.int .i64 v.k) ∧ w1.cell? ⟨w.heap.size, 1, none⟩ = some (.int .i64 v.n) ∧ w1.cell? ⟨w.heap.size, 2, none⟩ = some (.string v.s) ∧ w1.cell? ⟨w.heap.size, 3, none⟩ = some (.int .i64 v.a)) := show _ ∧ _ from
    ⟨hO1.cell S0.out.1 hTM, hO1.cell S0.out.2.1 hMw, hO1.cell S0.out.2.2.1 hMw, hO1.cell S0.out.2.2.2.1 hMw, hO1.cell S0.out.2.2.2.2 hMw⟩
  have HM1 : Hid (MapIs w1 M (l ++ [(v, x)])) := hM1
  have HO1 : Hid (Only (fun k => k = M) w w1) := (Only.below HB.out.drew).trans hO1
  have HT1 : Hid (TabB w1 T M i ord) := (hO1.block T (blk_lt hT0) hTM).trans hT0
  have HR1 : Hid (w1.ownsRow base 24 4 ord ks.length (keyCells ks)) := HO1.out.owns HO.out (fun g hg _ e => by omega)
  have HS1 : Hid (w1.heap.size = w0.heap.size) := hs1
  have HNB : Hid (some w.heap.size ≠ ord.ownBlock) := by
    show some w.heap.size ≠ ord.ownBlock
    rcases HO.out.2 with ⟨rfl, _⟩ | ⟨g, cap, cur, rfl, hgb, hh, _⟩
    · simp [Value.ownBlock]
    · have := blk_lt hh
      simp only [Value.ownBlock, ne_eq, Option.some.injEq]
      omega
  clear hM1 hO1 hs1 hM0 HO HM HT hT0
  go_enter Tryz.func89, Tryz.ntmps89
  go_wp2
  rw [← hw0]
  have hsz0 : Hid (w0.heap.size = w.heap.size + 1) := by rw [hw0]; exact (by simp : (w.alloc _).heap.size = w.heap.size + 1)
  clear hw0
  go_region_held3 (fun w' => w'.cell? ⟨T, 1, none⟩ = some (.map (some M)) ∧ w'.cell? ⟨w.heap.size, 0, none⟩ = some (.int .i64 v.k) ∧ w'.cell? ⟨w.heap.size, 1, none⟩ = some (.int .i64 v.n) ∧ w'.cell? ⟨w.heap.size, 2, none⟩ = some (.string v.s) ∧ w'.cell? ⟨w.heap.size, 3, none⟩ = some (.int .i64 v.a))
    (first | with_reducible exact S1.out | with_reducible exact S0.out | exact S0.out)
    (fail)
  clear S0 m1 t0 t1 t2 c0 c1 c2 c3
  obtain ⟨i0, hi, hz0, hz1, hz2⟩ := info_parts Tryz.info24
  obtain ⟨_, c0, c1, c2, c3⟩ := id S1.out
  obtain ⟨_, _, t2, z2⟩ := HT1.out.cells
  have hTlt : T < w1.heap.size := blk_lt HT1.out
  have hslt : w.heap.size < w1.heap.size := by have := HS1.out; have := hsz0.out; omega
  go_wp2
  refine wp_region_held_drew (S := fun w' => w'.cell? ⟨w.heap.size, 0, none⟩ = some (.int .i64 v.k) ∧ w'.cell? ⟨w.heap.size, 1, none⟩ = some (.int .i64 v.n) ∧ w'.cell? ⟨w.heap.size, 2, none⟩ = some (.string v.s) ∧ w'.cell? ⟨w.heap.size, 3, none⟩ = some (.int .i64 v.a)) (by kernel_rfl) ⟨c0, c1, c2, c3⟩ (fun hHeld => ?_)
  refine wpT (i := 0) (v := .pointer (some ⟨T, 0, none⟩)) rfl (fun w hSw => ?_) hHeld ?_
  · first | rfl | (obtain ⟨s1, s2, s3, s4⟩ := hSw; go_simp)
  simp only [Act.put, pz]
  refine wpT (i := 1) (v := .pointer (some ⟨T, 0, none⟩)) rfl (fun w hSw => ?_) hHeld ?_
  · first | rfl | (obtain ⟨s1, s2, s3, s4⟩ := hSw; go_simp)
  simp only [Act.put, pz]
  refine wpT (i := 2) (v := .pointer (some ⟨T, 0, none⟩)) rfl (fun w hSw => ?_) hHeld ?_
  · first | rfl | (obtain ⟨s1, s2, s3, s4⟩ := hSw; go_simp)
  simp only [Act.put, pz]
  refine wpT (i := 3) (v := .pointer (some ⟨T, 2, none⟩)) rfl (fun w hSw => ?_) hHeld ?_
  · first | rfl | (obtain ⟨s1, s2, s3, s4⟩ := hSw; go_simp)
  simp only [Act.put, pz]
  refine wpT (i := 5) (v := .agg #[.int .i64 v.k, .int .i64 v.n, .string v.s, .int .i64 v.a]) rfl (fun w hSw => ?_) hHeld ?_
  · first | rfl | (obtain ⟨s1, s2, s3, s4⟩ := hSw; go_simp)
  simp only [Act.put, pz]
  refine wpAnyH_ready (rs := [4, 6]) (by kernel_rfl) (by simp) ?_
  refine AllReadyH.cons rfl (fun K' hK' => ?_) (AllReadyH.cons rfl (fun K' hK' => ?_) AllReadyH.nil)
  · go_simp
    refine hK'.out _ _ ⟨c0, c1, c2, c3⟩ (fun hHeld => ?_)
    clear hK'
    refine wpAnyH_ready (rs := [6]) (by kernel_rfl) (by simp) ?_
    refine AllReadyH.cons rfl (fun K' hK' => ?_) AllReadyH.nil
    go_simp
    refine hK'.out _ _ ?_ (fun hHeld => ?_)
    · exact ValAt.below (o := 0) (w := w1) ⟨c0, c1, c2, c3⟩ ((Below.refl _ _).alloc (Nat.le_refl _) _).drew
    clear hK'
    refine wpAnyH_ready (rs := [7]) (by kernel_rfl) (by simp) ?_
    refine AllReadyH.cons rfl (fun K' hK' => ?_) AllReadyH.nil
    refine step_append_lies _ (by rfl) (.tmp 16) (.tmp 18) 42 (by rfl) base 24 i0 (.agg #[.int .i64 0, .int .i64 0, .string ⟨#[]⟩, .int .i64 0]) 4 40 Tryz.underlying42 hi hz0 hz1 hz2 (by rfl) (by omega) ord ks.length (keyCells ks) (by rfl) ((HR1.out.alloc _).drew) ⟨w1.heap.size, 0, none⟩ 1 1 [.int .i64 v.k, .int .i64 v.n, .string v.s, .int .i64 v.a] (by rfl) (by rfl) (World.news_of_block (w := (w1.alloc _).drew) (heap_alloc_new w1 _)) (by intro u hu; simp at hu; rcases hu with rfl | rfl | rfl | rfl <;> rfl) (by omega) (by unfold maxLen; omega) (by omega) (by simp; omega) (w1.heap.size + 1) (by simp) ?_
    intro g cap w3 hown3 hgrow3 hat hlt
    have hg : base ≤ g := by
      rcases hown3.2 with ⟨h, _⟩ | ⟨g', cap', cur, h, hgb, _⟩
      · cases h
      · cases h; exact hgb
    have PE := put_end HO1.out HT1.out HM1.out HR1.out hTM hTb hMb hbase hgrow3 hown3 hg
    have S3 : w3.cell? ⟨w.heap.size, 0, none⟩ = some (.int .i64 v.k) ∧ w3.cell? ⟨w.heap.size, 1, none⟩ = some (.int .i64 v.n) ∧ w3.cell? ⟨w.heap.size, 2, none⟩ = some (.string v.s) ∧ w3.cell? ⟨w.heap.size, 3, none⟩ = some (.int .i64 v.a) := by
      have hh := hHeld
      have hl : w.heap.size < (w1.alloc (.cells #[.int .i64 v.k, .int .i64 v.n, .string v.s, .int .i64 v.a] 24)).drew.heap.size := by show w.heap.size < (w1.alloc _).heap.size; simp; omega
      exact ⟨(hgrow3.cell_far ⟨w.heap.size, 0, none⟩ hl HNB.out).trans hh.1, (hgrow3.cell_far ⟨w.heap.size, 1, none⟩ hl HNB.out).trans hh.2.1, (hgrow3.cell_far ⟨w.heap.size, 2, none⟩ hl HNB.out).trans hh.2.2.1, (hgrow3.cell_far ⟨w.heap.size, 3, none⟩ hl HNB.out).trans hh.2.2.2⟩
    have HPE : Hid (PutEnd w (w3.setCell ⟨T, 2, none⟩ (.slice (some ⟨g, 0, none⟩) (ks.length + 1) cap)) T M base i ks l v x) := PE.2
    obtain ⟨e2, ez⟩ := PE.1
    have S4 : Hid ((w3.setCell ⟨T, 2, none⟩ (.slice (some ⟨g, 0, none⟩) (ks.length + 1) cap)).cell? ⟨w.heap.size, 0, none⟩ = some (.int .i64 v.k) ∧ (w3.setCell ⟨T, 2, none⟩ (.slice (some ⟨g, 0, none⟩) (ks.length + 1) cap)).cell? ⟨w.heap.size, 1, none⟩ = some (.int .i64 v.n) ∧ (w3.setCell ⟨T, 2, none⟩ (.slice (some ⟨g, 0, none⟩) (ks.length + 1) cap)).cell? ⟨w.heap.size, 2, none⟩ = some (.string v.s) ∧ (w3.setCell ⟨T, 2, none⟩ (.slice (some ⟨g, 0, none⟩) (ks.length + 1) cap)).cell? ⟨w.heap.size, 3, none⟩ = some (.int .i64 v.a)) := by
      have e := Below.heap_setCell w3 ⟨T, 2, none⟩ (.slice (some ⟨g, 0, none⟩) (ks.length + 1) cap) w.heap.size (show w.heap.size ≠ T by omega)
      generalize (w3.setCell ⟨T, 2, none⟩ (.slice (some ⟨g, 0, none⟩) (ks.length + 1) cap)) = w4 at e
      exact ⟨by rw [World.cell?_of_block e]; exact S3.1, by rw [World.cell?_of_block e]; exact S3.2.1, by rw [World.cell?_of_block e]; exact S3.2.2.1, by rw [World.cell?_of_block e]; exact S3.2.2.2⟩
    refine hK'.out _ _ S3 (fun hHeld => ?_)
    clear hK' PE hown3 hgrow3 hat
    simp only [Act.put, pz]
    refine wpT (i := 8) (v := .pointer (some ⟨T, 0, none⟩)) rfl (fun w hSw => ?_) hHeld ?_
    · rfl
    simp only [Act.put, pz]
    refine wpT (i := 9) (v := .pointer (some ⟨T, 2, none⟩)) rfl (fun w hSw => ?_) hHeld ?_
    · first | rfl | go_simp
    simp only [Act.put, pz]
    refine wpAnyH_ready (rs := [10]) (by kernel_rfl) (by simp) ?_
    refine AllReadyH.cons rfl (fun K' hK' => ?_) AllReadyH.nil
    clear hHeld S3
    go_simp
    refine hK'.out _ _ S4.out (fun hHeld => ?_)
    clear hK'
    refine wpAnyH_done (by kernel_rfl) ?_ _
    go_end0
    exact ⟨rfl, HPE.out⟩
  · go_simp
    refine hK'.out _ _ ?_ (fun hHeld => ?_)
    · exact ValAt.below (o := 0) (w := w1) ⟨c0, c1, c2, c3⟩ ((Below.refl _ _).alloc (Nat.le_refl _) _).drew
    clear hK'
    refine wpAnyH_ready (rs := [4]) (by kernel_rfl) (by simp) ?_
    refine AllReadyH.cons rfl (fun K' hK' => ?_) AllReadyH.nil
    go_simp
    refine hK'.out _ _ ?_ (fun hHeld => ?_)
    · exact ValAt.below (o := 0) (w := w1) ⟨c0, c1, c2, c3⟩ ((Below.refl _ _).alloc (Nat.le_refl _) _).drew
    clear hK'
    refine wpAnyH_ready (rs := [7]) (by kernel_rfl) (by simp) ?_
    refine AllReadyH.cons rfl (fun K' hK' => ?_) AllReadyH.nil
    refine step_append_lies _ (by rfl) (.tmp 16) (.tmp 18) 42 (by rfl) base 24 i0 (.agg #[.int .i64 0, .int .i64 0, .string ⟨#[]⟩, .int .i64 0]) 4 40 Tryz.underlying42 hi hz0 hz1 hz2 (by rfl) (by omega) ord ks.length (keyCells ks) (by rfl) ((HR1.out.alloc _).drew) ⟨w1.heap.size, 0, none⟩ 1 1 [.int .i64 v.k, .int .i64 v.n, .string v.s, .int .i64 v.a] (by rfl) (by rfl) (World.news_of_block (w := (w1.alloc _).drew) (heap_alloc_new w1 _)) (by intro u hu; simp at hu; rcases hu with rfl | rfl | rfl | rfl <;> rfl) (by omega) (by unfold maxLen; omega) (by omega) (by simp; omega) (w1.heap.size + 1) (by simp) ?_
    intro g cap w3 hown3 hgrow3 hat hlt
    have hg : base ≤ g := by
      rcases hown3.2 with ⟨h, _⟩ | ⟨g', cap', cur, h, hgb, _⟩
      · cases h
      · cases h; exact hgb
    have PE := put_end HO1.out HT1.out HM1.out HR1.out hTM hTb hMb hbase hgrow3 hown3 hg
    have S3 : w3.cell? ⟨w.heap.size, 0, none⟩ = some (.int .i64 v.k) ∧ w3.cell? ⟨w.heap.size, 1, none⟩ = some (.int .i64 v.n) ∧ w3.cell? ⟨w.heap.size, 2, none⟩ = some (.string v.s) ∧ w3.cell? ⟨w.heap.size, 3, none⟩ = some (.int .i64 v.a) := by
      have hh := hHeld
      have hl : w.heap.size < (w1.alloc (.cells #[.int .i64 v.k, .int .i64 v.n, .string v.s, .int .i64 v.a] 24)).drew.heap.size := by show w.heap.size < (w1.alloc _).heap.size; simp; omega
      exact ⟨(hgrow3.cell_far ⟨w.heap.size, 0, none⟩ hl HNB.out).trans hh.1, (hgrow3.cell_far ⟨w.heap.size, 1, none⟩ hl HNB.out).trans hh.2.1, (hgrow3.cell_far ⟨w.heap.size, 2, none⟩ hl HNB.out).trans hh.2.2.1, (hgrow3.cell_far ⟨w.heap.size, 3, none⟩ hl HNB.out).trans hh.2.2.2⟩
    have HPE : Hid (PutEnd w (w3.setCell ⟨T, 2, none⟩ (.slice (some ⟨g, 0, none⟩) (ks.length + 1) cap)) T M base i ks l v x) := PE.2
    obtain ⟨e2, ez⟩ := PE.1
    have S4 : Hid ((w3.setCell ⟨T, 2, none⟩ (.slice (some ⟨g, 0, none⟩) (ks.length + 1) cap)).cell? ⟨w.heap.size, 0, none⟩ = some (.int .i64 v.k) ∧ (w3.setCell ⟨T, 2, none⟩ (.slice (some ⟨g, 0, none⟩) (ks.length + 1) cap)).cell? ⟨w.heap.size, 1, none⟩ = some (.int .i64 v.n) ∧ (w3.setCell ⟨T, 2, none⟩ (.slice (some ⟨g, 0, none⟩) (ks.length + 1) cap)).cell? ⟨w.heap.size, 2, none⟩ = some (.string v.s) ∧ (w3.setCell ⟨T, 2, none⟩ (.slice (some ⟨g, 0, none⟩) (ks.length + 1) cap)).cell? ⟨w.heap.size, 3, none⟩ = some (.int .i64 v.a)) := by
      have e := Below.heap_setCell w3 ⟨T, 2, none⟩ (.slice (some ⟨g, 0, none⟩) (ks.length + 1) cap) w.heap.size (show w.heap.size ≠ T by omega)
      generalize (w3.setCell ⟨T, 2, none⟩ (.slice (some ⟨g, 0, none⟩) (ks.length + 1) cap)) = w4 at e
      exact ⟨by rw [World.cell?_of_block e]; exact S3.1, by rw [World.cell?_of_block e]; exact S3.2.1, by rw [World.cell?_of_block e]; exact S3.2.2.1, by rw [World.cell?_of_block e]; exact S3.2.2.2⟩
    refine hK'.out _ _ S3 (fun hHeld => ?_)
    clear hK' PE hown3 hgrow3 hat
    simp only [Act.put, pz]
    refine wpT (i := 8) (v := .pointer (some ⟨T, 0, none⟩)) rfl (fun w hSw => ?_) hHeld ?_
    · rfl
    simp only [Act.put, pz]
    refine wpT (i := 9) (v := .pointer (some ⟨T, 2, none⟩)) rfl (fun w hSw => ?_) hHeld ?_
    · first | rfl | go_simp
    simp only [Act.put, pz]
    refine wpAnyH_ready (rs := [10]) (by kernel_rfl) (by simp) ?_
    refine AllReadyH.cons rfl (fun K' hK' => ?_) AllReadyH.nil
    clear hHeld S3
    go_simp
    refine hK'.out _ _ S4.out (fun hHeld => ?_)
    clear hK'
    refine wpAnyH_done (by kernel_rfl) ?_ _
    go_end0
    exact ⟨rfl, HPE.out⟩

end Go.Proofs.YtgflalfiopnmnaaGreatDoor
