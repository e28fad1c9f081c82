import Derived.Test.YtgflalfiopnmnabLkMap
import Derived.LaidEql
namespace Go.Proofs.Ytgflalfiopnmnab
open Go.RowKit Vl

/-- What is there at a key, by a comparison. -/
def findG {α : Type} (eqb : α → α → Bool) (v : α) : List (α × Value) → Option Value
  | [] => none
  | (k, x) :: l => if eqb v k = true then some x else findG eqb v l

/-- What the keys of a map type are. -/
structure Keyed {α : Type} (mt kt et : TypeId) (enc : α → Value) (ok : World → α → Prop) (eqb : α → α → Bool) (z : Value) : Prop where
  und : Try.prog.underlying mt = some (.map kt et)
  eq : ∀ u v w, ok w u → ok w v → (Op.equal kt (enc u) (enc v)).run Try.prog w = .ok (eqb u v) w
  chk : ∀ em v w, (Instr.checkKey em 10000 kt (enc v)).run Try.prog w = .ok () w
  now : ∃ d, Try.prog.underlying kt = some d ∧ ∀ u v, Instr.sameNow d (enc u) (enc v) = none
  zero : ∀ w, (zeroValue et).run Try.prog w = .ok z w

theorem find_g {α : Type} {mt kt et : TypeId} {enc : α → Value} {ok : World → α → Prop} {eqb : α → α → Bool} {z : Value} (hK : Keyed mt kt et enc ok eqb z) (v : α) (w : World) (hv : ok w v) : ∀ (es : List MapEntry) (l : List (α × Value)) (i : Nat), (∀ p ∈ l, ok w p.1) → es.map (fun e => (e.key, e.val)) = l.map (fun p => (enc p.1, p.2)) →
    (findG eqb v l = none → (Instr.findAsking kt (enc v) es i).run Try.prog w = .ok none w) ∧ (∀ x, findG eqb v l = some x → ∃ j, (Instr.findAsking kt (enc v) es i).run Try.prog w = .ok (some (j, x)) w)
  | [], [], i, _, _ => ⟨fun _ => rfl, fun x h => by cases h⟩
  | [], _ :: _, i, _, h => by simp at h
  | _ :: _, [], i, _, h => by simp at h
  | e :: es, (k, x) :: l, i, hl, h => by
    simp only [List.map_cons, List.cons.injEq, Prod.mk.injEq] at h
    obtain ⟨⟨h1, h2⟩, h3⟩ := h
    have ih := find_g hK v w hv es l (i + 1) (fun p hp => hl p (List.mem_cons_of_mem _ hp)) h3
    have e1 : (Instr.findAsking kt (enc v) (e :: es) i).run Try.prog w = if eqb v k = true then .ok (some (i, e.val)) w else (Instr.findAsking kt (enc v) es (i + 1)).run Try.prog w := by
      conv => lhs; unfold Instr.findAsking
      rw [Sem.run_bind, h1, hK.eq _ _ _ hv (hl (k, x) (by simp))]
      simp only [Result.andThen_ok]
      cases eqb v k <;> simp
    rw [e1]
    unfold findG
    by_cases he : eqb v k = true
    · rw [if_pos he, if_pos he, h2]
      exact ⟨fun h => (by cases h), fun y h => ⟨i, by cases h; rfl⟩⟩
    · rw [if_neg he, if_neg he]
      exact ih

theorem findKey_g {α : Type} {mt kt et : TypeId} {enc : α → Value} {ok : World → α → Prop} {eqb : α → α → Bool} {z : Value} (hK : Keyed mt kt et enc ok eqb z) (v : α) (w : World) (hv : ok w v) (es : List MapEntry) (l : List (α × Value)) (hl : ∀ p ∈ l, ok w p.1) (h : es.map (fun e => (e.key, e.val)) = l.map (fun p => (enc p.1, p.2))) :
    (findG eqb v l = none → (Instr.findKey kt (enc v) es).run Try.prog w = .ok none w) ∧ (∀ x, findG eqb v l = some x → ∃ j, (Instr.findKey kt (enc v) es).run Try.prog w = .ok (some (j, x)) w) := by
  have hf := find_g hK v w hv es l 0 hl h
  obtain ⟨d, hd, hn⟩ := hK.now
  have e1 : (Instr.findKey kt (enc v) es).run Try.prog w = (Instr.findAsking kt (enc v) es 0).run Try.prog w := by
    unfold Instr.findKey
    rw [Sem.run_bind, run_underlying hd]
    simp only [Result.andThen_ok]
    cases es with
    | nil => rfl
    | cons e es =>
      cases l with
      | nil => simp at h
      | cons p l =>
        simp only [List.map_cons, List.cons.injEq, Prod.mk.injEq] at h
        have : Instr.findNow d (enc v) (e :: es) 0 = none := by
          unfold Instr.findNow
          rw [h.1.1, hn]
        rw [this]
  rw [e1]
  exact hf

/-- A block that is a map. -/
def MapG {α : Type} (enc : α → Value) (w : World) (M : Nat) (l : List (α × Value)) : Prop := ∃ es clk, w.heap[M]? = some (.map es clk) ∧ es.toList.map (fun e => (e.key, e.val)) = l.map (fun p => (enc p.1, p.2))

theorem MapG.same {α : Type} {enc : α → Value} {w w' : World} {M : Nat} {l : List (α × Value)} (h : MapG enc w M l) (e : w'.heap[M]? = w.heap[M]?) : MapG enc w' M l := by
  obtain ⟨es, clk, h1, h2⟩ := h
  exact ⟨es, clk, e.trans h1, h2⟩
theorem MapG.lt {α : Type} {enc : α → Value} {w : World} {M : Nat} {l : List (α × Value)} (h : MapG enc w M l) : M < w.heap.size := by
  obtain ⟨es, clk, h1, _⟩ := h
  exact blk_lt h1
theorem MapG.len {α : Type} {enc : α → Value} {w : World} {M : Nat} {l : List (α × Value)} (h : MapG enc w M l) : ∃ es clk, w.heap[M]? = some (.map es clk) ∧ es.size = l.length := by
  obtain ⟨es, clk, h1, h2⟩ := h
  refine ⟨es, clk, h1, ?_⟩
  have := congrArg List.length h2
  simpa using this

theorem MapG.lookup {α : Type} {mt kt et : TypeId} {enc : α → Value} {ok : World → α → Prop} {eqb : α → α → Bool} {z : Value} (hK : Keyed mt kt et enc ok eqb z) {w : World} {M : Nat} {l : List (α × Value)} (h : MapG enc w M l) (v : α) (hv : ok w v) (hok : ∀ p ∈ l, ok w p.1) :
    (Instr.lookup mt (.map (some M)) (enc v) true).run Try.prog w = .ok (.tuple #[(findG eqb v l).getD z, .bool (findG eqb v l).isSome]) w ∧
    (Instr.lookup mt (.map (some M)) (enc v) false).run Try.prog w = .ok ((findG eqb v l).getD z) w := by
  obtain ⟨es, clk, hb, hl⟩ := h
  have hk := findKey_g hK v w hv es.toList l hok hl
  cases hf : findG eqb v l with
  | none =>
    have h1 := hk.1 hf
    constructor <;> simp [Instr.lookup, run_underlying hK.und, MapKept.run_getObj_map hb, hK.chk, h1, hK.zero, Result.andThen]
  | some x =>
    obtain ⟨j, h1⟩ := hk.2 x hf
    constructor <;> simp [Instr.lookup, run_underlying hK.und, MapKept.run_getObj_map hb, hK.chk, h1, Result.andThen]

theorem MapG.update {α : Type} {mt kt et : TypeId} {enc : α → Value} {ok : World → α → Prop} {eqb : α → α → Bool} {z : Value} (hK : Keyed mt kt et enc ok eqb z) {w : World} {M : Nat} {l : List (α × Value)} (h : MapG enc w M l) (v : α) (x : Value) (hv : ok w v) (hok : ∀ p ∈ l, ok w p.1) (hf : findG eqb v l = none) :
    ∃ w', (Instr.mapUpdate mt (.map (some M)) (enc v) x).run Try.prog w = .ok () w' ∧ MapG enc w' M (l ++ [(v, x)]) ∧ Only (fun k => k = M) w w' ∧ w'.heap.size = w.heap.size := by
  obtain ⟨es, clk, hb, hl⟩ := h
  have hk := (findKey_g hK v w hv es.toList l hok hl).1 hf
  refine ⟨{ w with heap := w.heap.setIfInBounds M (.map (es.push { key := enc v, val := x, born := clk }) (clk + 1)) }, ?_, ?_, ?_, by simp⟩
  · simp [Instr.mapUpdate, run_underlying hK.und, MapKept.run_getObj_map hb, hK.chk, hk, Result.andThen, MapKept.run_setObj_map _ hb]
  · refine ⟨_, _, by rw [Array.getElem?_setIfInBounds_self_of_lt (blk_lt hb)], ?_⟩
    simp [hl]
  · refine ⟨rfl, rfl, rfl, by simp, fun k _ hk => ?_⟩
    show (w.heap.setIfInBounds M _)[k]? = w.heap[k]?
    rw [Array.getElem?_setIfInBounds_ne (fun e => hk e.symm)]

/-- Pointers to blocks as keys. -/
abbrev ptr (b : Nat) : Value := .pointer (some ⟨b, 0, none⟩)
/-- A block of cells. -/
def IsB (w : World) (b : Nat) : Prop := ∃ ca ta, w.heap[b]? = some (.cells ca ta (0, 0))
theorem size_table : ∃ j, Try.prog.info? 95 = some j ∧ j.size ≠ 0 := by
  have h : (Try.prog.info? 95).map (fun i => i.size) = some 3 := by kernel_rfl
  cases hi : Try.prog.info? 95 with
  | none => rw [hi] at h; cases h
  | some j => rw [hi] at h; exact ⟨j, rfl, by simp at h; omega⟩
theorem eq_ptr (u v : Nat) (w : World) (hu : IsB w u) (hv : IsB w v) (d : Nat) : (Op.equalIn (d + 1) 92 (ptr u) (ptr v)).run Try.prog w = .ok (u == v) w := by
  obtain ⟨j, hj, hs⟩ := size_table
  obtain ⟨ca, ta, ha⟩ := hu
  obtain ⟨cb, tb, hb⟩ := hv
  by_cases h : u = v
  · subst h
    simp [Op.equalIn, run_underlying Try.underlying92, sizeOf, typeInfo, hj, run_sameAddr_same]
  · have hne : (⟨u, 0, none⟩ : Addr) ≠ ⟨v, 0, none⟩ := fun e => h (by cases e; rfl)
    simp [Op.equalIn, run_underlying Try.underlying92, sizeOf, typeInfo, hj, hs, run_sameAddr_other w hne ha hb, h]
theorem findG_mem (f : Nat → Nat) (hf : Nat → Value) (r : Nat) : ∀ (S : List Nat), (∀ i ∈ S, f i = f r → i = r) → (findG (fun a b => a == b) (f r) (S.map fun i => (f i, hf i))).isSome = decide (r ∈ S)
  | [], _ => rfl
  | i :: S, h => by
    simp only [List.map_cons, findG]
    by_cases e : f r = f i
    · rw [if_pos (by simpa using e)]
      have := h i (by simp) e.symm
      subst this
      simp
    · rw [if_neg (by simpa using e), findG_mem f hf r S (fun j hj => h j (by simp [hj]))]
      have : ¬ r = i := fun x => e (by rw [x])
      simp [this]

theorem findG_const {α : Type} (eqb : α → α → Bool) (v : α) (T : Nat → α) (c : Value) : ∀ S : List Nat, (findG eqb v (S.map fun j => (T j, c))).getD c = c
  | [] => rfl
  | i :: S => by
    simp only [List.map_cons, findG]
    split
    · rfl
    · exact findG_const eqb v T c S

end Go.Proofs.Ytgflalfiopnmnab
