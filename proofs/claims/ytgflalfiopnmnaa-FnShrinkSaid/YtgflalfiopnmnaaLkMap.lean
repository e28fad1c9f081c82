import Derived.Test.YtgflalfiopnmnaaGrSp
import Derived.Test.YtgflalfiopnmnaaOnlyB
import Derived.MapKept
namespace Go.Proofs.Ytgflalfiopnmnaa
open Go.RowKit Vl

/-- A value as a Go value. -/
abbrev vAgg (v : V) : Value := .agg #[.int .i64 v.k, .int .i64 v.n, .string v.s, .int .i64 v.a]

theorem equal_val (u v : V) (w : World) : (Op.equal 24 (vAgg u) (vAgg v)).run Try.prog w = .ok (eqV u v) w := by
  unfold Op.equal Op.maxDepth
  go_simp
  by_cases h1 : u.k = v.k <;> by_cases h2 : u.n = v.n <;> by_cases h3 : u.s.toList = v.s.toList <;> by_cases h4 : u.a = v.a <;> simp [eqV, h1, h2, h3, h4]

theorem check_val (em : Bool) (v : V) (w : World) : (Instr.checkKey em 10000 24 (vAgg v)).run Try.prog w = .ok () w := by
  kernel_rfl

/-- What is there at a key. -/
def findV (v : V) : List (V × Value) → Option Value
  | [] => none
  | (k, x) :: l => if eqV v k = true then some x else findV v l

theorem find_val (v : V) (w : World) : ∀ (es : List MapEntry) (l : List (V × Value)) (i : Nat), es.map (fun e => (e.key, e.val)) = l.map (fun p => (vAgg p.1, p.2)) →
    (findV v l = none → (Instr.findAsking 24 (vAgg v) es i).run Try.prog w = .ok none w) ∧ (∀ x, findV v l = some x → ∃ j, (Instr.findAsking 24 (vAgg v) es i).run Try.prog w = .ok (some (j, x)) w)
  | [], [], i, _ => ⟨fun _ => rfl, fun x h => by cases h⟩
  | [], _ :: _, i, h => by simp at h
  | _ :: _, [], i, h => by simp at h
  | e :: es, (k, x) :: l, i, h => by
    simp only [List.map_cons, List.cons.injEq, Prod.mk.injEq] at h
    obtain ⟨⟨h1, h2⟩, h3⟩ := h
    have ih := find_val v w es l (i + 1) h3
    have e1 : (Instr.findAsking 24 (vAgg v) (e :: es) i).run Try.prog w = if eqV v k = true then .ok (some (i, e.val)) w else (Instr.findAsking 24 (vAgg v) es (i + 1)).run Try.prog w := by
      conv => lhs; unfold Instr.findAsking
      rw [Sem.run_bind, h1, equal_val]
      simp only [Result.andThen_ok]
      cases eqV v k <;> simp
    rw [e1]
    unfold findV
    by_cases he : eqV v k = true
    · rw [if_pos he, if_pos he, h2]
      exact ⟨fun h => (by cases h), fun y h => ⟨i, by cases h; rfl⟩⟩
    · rw [if_neg he, if_neg he]
      exact ih

theorem find_key (v : V) (w : World) (es : List MapEntry) (l : List (V × Value)) (h : es.map (fun e => (e.key, e.val)) = l.map (fun p => (vAgg p.1, p.2))) :
    (findV v l = none → (Instr.findKey 24 (vAgg v) es).run Try.prog w = .ok none w) ∧ (∀ x, findV v l = some x → ∃ j, (Instr.findKey 24 (vAgg v) es).run Try.prog w = .ok (some (j, x)) w) := by
  have hf := find_val v w es l 0 h
  have e1 : (Instr.findKey 24 (vAgg v) es).run Try.prog w = (Instr.findAsking 24 (vAgg v) es 0).run Try.prog w := by
    unfold Instr.findKey
    rw [Sem.run_bind, run_underlying Try.underlying24]
    simp only [Result.andThen_ok]
    cases es with
    | nil => rfl
    | cons e es => rfl
  rw [e1]
  exact hf

/-- A block that is a map from values. -/
def MapIs (w : World) (M : Nat) (l : List (V × Value)) : Prop := ∃ es clk, w.heap[M]? = some (.map es clk) ∧ es.toList.map (fun e => (e.key, e.val)) = l.map (fun p => (vAgg p.1, p.2))

theorem MapIs.same {w w' : World} {M : Nat} {l : List (V × Value)} (h : MapIs w M l) (e : w'.heap[M]? = w.heap[M]?) : MapIs w' M l := by
  obtain ⟨es, clk, h1, h2⟩ := h
  exact ⟨es, clk, e.trans h1, h2⟩
theorem MapIs.lt {w : World} {M : Nat} {l : List (V × Value)} (h : MapIs w M l) : M < w.heap.size := by
  obtain ⟨es, clk, h1, _⟩ := h
  exact blk_lt h1

theorem MapIs.lookup {w : World} {M : Nat} {l : List (V × Value)} (h : MapIs w M l) (v : V) :
    (Instr.lookup 64 (.map (some M)) (vAgg v) true).run Try.prog w = .ok (.tuple #[(findV v l).getD .nilIface, .bool (findV v l).isSome]) w ∧
    (Instr.lookup 64 (.map (some M)) (vAgg v) false).run Try.prog w = .ok ((findV v l).getD .nilIface) w := by
  obtain ⟨es, clk, hb, hl⟩ := h
  have hk := find_key v w es.toList l hl
  have hz : (zeroValue 68).run Try.prog w = .ok .nilIface w := by kernel_rfl
  cases hf : findV v l with
  | none =>
    have h1 := hk.1 hf
    constructor <;> simp [Instr.lookup, run_underlying Try.underlying64, MapKept.run_getObj_map hb, check_val, h1, hz, Result.andThen]
  | some x =>
    obtain ⟨j, h1⟩ := hk.2 x hf
    constructor <;> simp [Instr.lookup, run_underlying Try.underlying64, MapKept.run_getObj_map hb, check_val, h1, Result.andThen]

theorem MapIs.update {w : World} {M : Nat} {l : List (V × Value)} (h : MapIs w M l) (v : V) (x : Value) (hf : findV v l = none) :
    ∃ w', (Instr.mapUpdate 64 (.map (some M)) (vAgg v) x).run Try.prog w = .ok () w' ∧ MapIs w' M (l ++ [(v, x)]) ∧ Only (fun k => k = M) w w' ∧ w'.heap.size = w.heap.size := by
  obtain ⟨es, clk, hb, hl⟩ := h
  have hk := (find_key v w es.toList l hl).1 hf
  refine ⟨{ w with heap := w.heap.setIfInBounds M (.map (es.push { key := vAgg v, val := x, born := clk }) (clk + 1)) }, ?_, ?_, ?_, by simp⟩
  · simp [Instr.mapUpdate, run_underlying Try.underlying64, MapKept.run_getObj_map hb, check_val, hk, Result.andThen, MapKept.run_setObj_map _ hb]
  · refine ⟨_, _, by rw [Array.getElem?_setIfInBounds_self_of_lt (blk_lt hb)], ?_⟩
    simp [hl]
  · refine ⟨rfl, rfl, rfl, by simp, fun k _ hk => ?_⟩
    show (w.heap.setIfInBounds M _)[k]? = w.heap[k]?
    rw [Array.getElem?_setIfInBounds_ne (fun e => hk e.symm)]

end Go.Proofs.Ytgflalfiopnmnaa
