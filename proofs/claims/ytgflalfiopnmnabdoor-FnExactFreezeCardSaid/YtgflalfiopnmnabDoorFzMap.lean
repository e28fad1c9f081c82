import Derived.Test.YtgflalfiopnmnabDoorGmMa
import Derived.Test.YtgflalfiopnmnabDoorCnFr
namespace Go.Proofs.YtgflalfiopnmnabDoor
open Go.RowKit Vl

theorem leads_keyed : Keyed 48 84 3 ptr IsB (fun a b => a == b) (.int .i64 0) where
  und := Tryd.underlying48
  eq := fun u v w hu hv => eq_ptr u v w hu hv 9999
  chk := fun em v w => by kernel_rfl
  now := ⟨_, Tryd.underlying84, fun u v => rfl⟩
  zero := fun w => by kernel_rfl

theorem find_at (v : Nat) (w : World) (hv : IsB w v) : ∀ (es : List MapEntry) (l : List (Nat × Value)) (i : Nat), (∀ p ∈ l, IsB w p.1) → es.map (fun e => (e.key, e.val)) = l.map (fun p => (ptr p.1, p.2)) → ∀ x, findG (fun a b => a == b) v l = some x →
    ∃ j, l[j]? = some (v, x) ∧ (∃ e, es[j]? = some e ∧ e.key = ptr v) ∧ (Instr.findAsking 84 (ptr v) es i).run Tryd.prog w = .ok (some (i + j, x)) w
  | [], [], i, _, _, x, h => by cases h
  | [], _ :: _, i, _, h, _, _ => by simp at h
  | _ :: _, [], i, _, h, _, _ => by simp at h
  | e :: es, (k, y) :: l, i, hl, h, x, hf => by
    simp only [List.map_cons, List.cons.injEq, Prod.mk.injEq] at h
    obtain ⟨⟨h1, h2⟩, h3⟩ := h
    have e1 : (Instr.findAsking 84 (ptr v) (e :: es) i).run Tryd.prog w = if (v == k) = true then .ok (some (i, e.val)) w else (Instr.findAsking 84 (ptr v) es (i + 1)).run Tryd.prog w := by
      conv => lhs; unfold Instr.findAsking
      rw [Sem.run_bind, h1, leads_keyed.eq _ _ _ hv (hl (k, y) (by simp))]
      simp only [Result.andThen_ok]
      cases (v == k) <;> simp
    unfold findG at hf
    by_cases he : (v == k) = true
    · rw [if_pos he] at hf e1
      obtain rfl : y = x := by cases hf; rfl
      obtain rfl : v = k := by simpa using he
      exact ⟨0, rfl, ⟨e, rfl, h1⟩, by rw [e1, h2]; rfl⟩
    · rw [if_neg he] at hf e1
      obtain ⟨j, a, ⟨e', b, b'⟩, c⟩ := find_at v w hv es l (i + 1) (fun p hp => hl p (List.mem_cons_of_mem _ hp)) h3 x hf
      refine ⟨j + 1, by simpa using a, ⟨e', by simpa using b, b'⟩, ?_⟩
      rw [e1, c, show i + 1 + j = i + (j + 1) by omega]

theorem findKey_at (v : Nat) (w : World) (hv : IsB w v) (es : List MapEntry) (l : List (Nat × Value)) (hl : ∀ p ∈ l, IsB w p.1) (h : es.map (fun e => (e.key, e.val)) = l.map (fun p => (ptr p.1, p.2))) (x : Value) (hf : findG (fun a b => a == b) v l = some x) :
    ∃ j, l[j]? = some (v, x) ∧ (∃ e, es[j]? = some e ∧ e.key = ptr v) ∧ (Instr.findKey 84 (ptr v) es).run Tryd.prog w = .ok (some (j, x)) w := by
  obtain ⟨j, a, b, c⟩ := find_at v w hv es l 0 hl h x hf
  refine ⟨j, a, b, ?_⟩
  obtain ⟨d, hd, hn⟩ := leads_keyed.now
  have e1 : (Instr.findKey 84 (ptr v) es).run Tryd.prog w = (Instr.findAsking 84 (ptr v) es 0).run Tryd.prog w := by
    unfold Instr.findKey
    rw [Sem.run_bind, run_underlying hd]
    simp only [Result.andThen_ok]
    cases es with
    | nil => rfl
    | cons e es =>
      cases l with
      | nil => simp at h
      | cons p l =>
        simp only [List.map_cons, List.cons.injEq, Prod.mk.injEq] at h
        have : Instr.findNow d (ptr v) (e :: es) 0 = none := by
          unfold Instr.findNow
          rw [h.1.1, hn]
        rw [this]
  rw [e1, c, Nat.zero_add]

/-- A map over tables, by their numbers. -/
abbrev tabL (T : Nat → Nat) (S : List Nat) (f : Nat → Value) : List (Nat × Value) := S.map fun j => (T j, f j)
theorem find_tab (T : Nat → Nat) (f : Nat → Value) (r : Nat) : ∀ S : List Nat, (∀ i ∈ S, T i = T r → i = r) → findG (fun a b => a == b) (T r) (tabL T S f) = if r ∈ S then some (f r) else none
  | [], _ => rfl
  | i :: S, h => by
    simp only [tabL, List.map_cons, findG]
    by_cases e : T r = T i
    · rw [if_pos (by simpa using e)]
      have := h i (by simp) e.symm
      subst this
      simp
    · rw [if_neg (by simpa using e)]
      have := find_tab T f r S (fun j hj => h j (by simp [hj]))
      unfold tabL at this
      rw [this]
      have hne : ¬ r = i := fun x => e (by rw [x])
      simp [hne]

theorem tab_set (T : Nat → Nat) (f : Nat → Value) (x : Value) {r : Nat} : ∀ (S : List Nat) (j : Nat), S.Nodup → S[j]? = some r → (tabL T S f).set j (T r, x) = tabL T S (fun i => if i = r then x else f i)
  | [], j, _, h => by simp at h
  | i :: S, 0, hn, h => by
    simp at h
    subst h
    obtain ⟨h1, _⟩ := List.nodup_cons.1 hn
    simp only [tabL, List.map_cons, List.set_cons_zero, if_true, List.cons.injEq, true_and]
    refine List.map_congr_left (fun k hk => ?_)
    have hne : k ≠ i := fun e => h1 (by rw [← e]; exact hk)
    rw [if_neg hne]
  | i :: S, j + 1, hn, h => by
    obtain ⟨h1, h2⟩ := List.nodup_cons.1 hn
    have hj : S[j]? = some r := by simpa using h
    have hne : i ≠ r := fun e => h1 (by rw [e]; exact List.mem_of_getElem? hj)
    have := tab_set T f x S j h2 hj
    simp only [tabL, List.map_cons, List.set_cons_succ, if_neg hne, List.cons.injEq, true_and] at this ⊢
    exact this

theorem stays (a : Nat) (w : World) : (Instr.keyThatStays (ptr a) (ptr a)).run Tryd.prog w = .ok (ptr a) w := by simp [Instr.keyThatStays, Instr.sameBits]

/-- The value at a key that is there is another. -/
theorem MapG.reset {w : World} {M : Nat} {T : Nat → Nat} {S : List Nat} {f : Nat → Value} (h : MapG ptr w M (tabL T S f)) {r : Nat} (hr : r ∈ S) (hn : S.Nodup) (hi : ∀ i ∈ S, ∀ j ∈ S, T i = T j → i = j) (hB : ∀ i ∈ S, IsB w (T i)) (x : Value) :
    ∃ w', (Instr.mapUpdate 48 (.map (some M)) (ptr (T r)) x).run Tryd.prog w = .ok () w' ∧ MapG ptr w' M (tabL T S (fun i => if i = r then x else f i)) ∧ Only (fun k => k = M) w w' ∧ w'.heap.size = w.heap.size := by
  obtain ⟨es, clk, hb, hl⟩ := h
  have hf := find_tab T f r S (fun i hi' e => hi i hi' r hr e)
  rw [if_pos hr] at hf
  obtain ⟨j, a, ⟨e, b, b'⟩, c⟩ := findKey_at (T r) w (hB r hr) es.toList (tabL T S f) (fun p hp => by obtain ⟨i, hi', rfl⟩ := List.mem_map.1 hp; exact hB i hi') hl (f r) hf
  have hj : S[j]? = some r := by
    unfold tabL at a
    rw [List.getElem?_map] at a
    cases hs : S[j]? with
    | none => rw [hs] at a; cases a
    | some i =>
      rw [hs] at a
      simp only [Option.map_some, Option.some.injEq, Prod.mk.injEq] at a
      rw [hi i (List.mem_of_getElem? hs) r hr a.1]
  have bq : es[j]? = some e := by rw [← Array.getElem?_toList]; exact b
  refine ⟨{ w with heap := w.heap.setIfInBounds M (.map (es.modify j fun e => { e with key := ptr (T r), val := x }) clk) }, ?_, ?_, ?_, by simp⟩
  · simp [Instr.mapUpdate, run_underlying leads_keyed.und, MapKept.run_getObj_map hb, leads_keyed.chk, c, Result.andThen, MapKept.run_setObj_map _ hb, bq, b', stays]
  · refine ⟨_, _, by rw [Array.getElem?_setIfInBounds_self_of_lt (blk_lt hb)], ?_⟩
    have e2 : (es.modify j fun e => { e with key := ptr (T r), val := x }).toList.map (fun e => (e.key, e.val)) = (es.toList.map (fun e => (e.key, e.val))).set j (ptr (T r), x) := by
      apply List.ext_getElem?
      intro i
      rw [List.getElem?_map, Array.getElem?_toList, Array.getElem?_modify, List.getElem?_set, List.getElem?_map, Array.getElem?_toList]
      by_cases hij : j = i
      · subst hij
        rw [if_pos rfl, if_pos rfl, bq]
        simp
        exact (Array.getElem?_eq_some_iff.1 bq).1
      · rw [if_neg hij, if_neg hij]
    rw [e2, hl, ← tab_set T f x S j hn hj]
    rw [List.map_set]
  · refine ⟨rfl, rfl, rfl, by simp, fun k _ hk => ?_⟩
    show (w.heap.setIfInBounds M _)[k]? = w.heap[k]?
    rw [Array.getElem?_setIfInBounds_ne (fun e => hk e.symm)]

end Go.Proofs.YtgflalfiopnmnabDoor
