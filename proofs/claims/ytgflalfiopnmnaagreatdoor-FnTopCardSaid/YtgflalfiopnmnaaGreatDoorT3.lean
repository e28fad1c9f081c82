import Derived.Test.YtgflalfiopnmnaaGreatDoorT0
import Derived.Test.YtgflalfiopnmnaaGreatDoorT1
import Derived.LaidEql
import Derived.Test.YtgflalfiopnmnaaGreatDoorT2
namespace Go.Proofs.YtgflalfiopnmnaaGreatDoor
open Go.RowKit Vl

def findG {α : Type} (eqb : α → α → Bool) (v : α) : List (α × Value) → Option Value
  | [] => none
  | (k, x) :: l => if eqb v k = true then some x else findG eqb v l

structure Keyed {α : Type} (mt kt et : TypeId) (enc : α → Value) (ok : World → α → Prop) (eqb : α → α → Bool) (z : Value) : Prop where
  und : Tryz.prog.underlying mt = some (.map kt et)
  eq : ∀ u v w, ok w u → ok w v → (Op.equal kt (enc u) (enc v)).run Tryz.prog w = .ok (eqb u v) w
  chk : ∀ em v w, (Instr.checkKey em 10000 kt (enc v)).run Tryz.prog w = .ok () w
  now : ∃ d, Tryz.prog.underlying kt = some d ∧ ∀ u v, Instr.sameNow d (enc u) (enc v) = none
  zero : ∀ w, (zeroValue et).run Tryz.prog w = .ok z w

theorem find_g {α : Type} {mt kt et : TypeId} {enc : α → Value} {ok : World → α → Prop} {eqb : α → α → Bool} {z : Value} (hK : Keyed mt kt et enc ok eqb z) (v : α) (w : World) (hv : ok w v) : ∀ (es : List MapEntry) (l : List (α × Value)) (i : Nat), (∀ p ∈ l, ok w p.1) → es.map (fun e => (e.key, e.val)) = l.map (fun p => (enc p.1, p.2)) →
    (findG eqb v l = none → (Instr.findAsking kt (enc v) es i).run Tryz.prog w = .ok none w) ∧ (∀ x, findG eqb v l = some x → ∃ j, (Instr.findAsking kt (enc v) es i).run Tryz.prog w = .ok (some (j, x)) w)
  | [], [], i, _, _ => ⟨fun _ => rfl, fun x h => by cases h⟩
  | [], _ :: _, i, _, h => by simp at h
  | _ :: _, [], i, _, h => by simp at h
  | e :: es, (k, x) :: l, i, hl, h => by
    simp only [List.map_cons, List.cons.injEq, Prod.mk.injEq] at h
    obtain ⟨⟨h1, h2⟩, h3⟩ := h
    have ih := find_g hK v w hv es l (i + 1) (fun p hp => hl p (List.mem_cons_of_mem _ hp)) h3
    have e1 : (Instr.findAsking kt (enc v) (e :: es) i).run Tryz.prog w = if eqb v k = true then .ok (some (i, e.val)) w else (Instr.findAsking kt (enc v) es (i + 1)).run Tryz.prog w := by
      conv => lhs; unfold Instr.findAsking
      rw [Sem.run_bind, h1, hK.eq _ _ _ hv (hl (k, x) (by simp))]
      simp only [Result.andThen_ok]
      cases eqb v k <;> simp
    rw [e1]
    unfold findG
    by_cases he : eqb v k = true
    · rw [if_pos he, if_pos he, h2]
      exact ⟨fun h => (by cases h), fun y h => ⟨i, by cases h; rfl⟩⟩
    · rw [if_neg he, if_neg he]
      exact ih

theorem findKey_g {α : Type} {mt kt et : TypeId} {enc : α → Value} {ok : World → α → Prop} {eqb : α → α → Bool} {z : Value} (hK : Keyed mt kt et enc ok eqb z) (v : α) (w : World) (hv : ok w v) (es : List MapEntry) (l : List (α × Value)) (hl : ∀ p ∈ l, ok w p.1) (h : es.map (fun e => (e.key, e.val)) = l.map (fun p => (enc p.1, p.2))) :
    (findG eqb v l = none → (Instr.findKey kt (enc v) es).run Tryz.prog w = .ok none w) ∧ (∀ x, findG eqb v l = some x → ∃ j, (Instr.findKey kt (enc v) es).run Tryz.prog w = .ok (some (j, x)) w) := by
  have hf := find_g hK v w hv es l 0 hl h
  obtain ⟨d, hd, hn⟩ := hK.now
  have e1 : (Instr.findKey kt (enc v) es).run Tryz.prog w = (Instr.findAsking kt (enc v) es 0).run Tryz.prog w := by
    unfold Instr.findKey
    rw [Sem.run_bind, run_underlying hd]
    simp only [Result.andThen_ok]
    cases es with
    | nil => rfl
    | cons e es =>
      cases l with
      | nil => simp at h
      | cons p l =>
        simp only [List.map_cons, List.cons.injEq, Prod.mk.injEq] at h
        have : Instr.findNow d (enc v) (e :: es) 0 = none := by
          unfold Instr.findNow
          rw [h.1.1, hn]
        rw [this]
  rw [e1]
  exact hf

def MapG {α : Type} (enc : α → Value) (w : World) (M : Nat) (l : List (α × Value)) : Prop := ∃ es clk, w.heap[M]? = some (.map es clk) ∧ es.toList.map (fun e => (e.key, e.val)) = l.map (fun p => (enc p.1, p.2))

theorem MapG.same {α : Type} {enc : α → Value} {w w' : World} {M : Nat} {l : List (α × Value)} (h : MapG enc w M l) (e : w'.heap[M]? = w.heap[M]?) : MapG enc w' M l := by
  obtain ⟨es, clk, h1, h2⟩ := h
  exact ⟨es, clk, e.trans h1, h2⟩
theorem MapG.lt {α : Type} {enc : α → Value} {w : World} {M : Nat} {l : List (α × Value)} (h : MapG enc w M l) : M < w.heap.size := by
  obtain ⟨es, clk, h1, _⟩ := h
  exact blk_lt h1
theorem MapG.len {α : Type} {enc : α → Value} {w : World} {M : Nat} {l : List (α × Value)} (h : MapG enc w M l) : ∃ es clk, w.heap[M]? = some (.map es clk) ∧ es.size = l.length := by
  obtain ⟨es, clk, h1, h2⟩ := h
  refine ⟨es, clk, h1, ?_⟩
  have := congrArg List.length h2
  simpa using this

theorem MapG.lookup {α : Type} {mt kt et : TypeId} {enc : α → Value} {ok : World → α → Prop} {eqb : α → α → Bool} {z : Value} (hK : Keyed mt kt et enc ok eqb z) {w : World} {M : Nat} {l : List (α × Value)} (h : MapG enc w M l) (v : α) (hv : ok w v) (hok : ∀ p ∈ l, ok w p.1) :
    (Instr.lookup mt (.map (some M)) (enc v) true).run Tryz.prog w = .ok (.tuple #[(findG eqb v l).getD z, .bool (findG eqb v l).isSome]) w ∧
    (Instr.lookup mt (.map (some M)) (enc v) false).run Tryz.prog w = .ok ((findG eqb v l).getD z) w := by
  obtain ⟨es, clk, hb, hl⟩ := h
  have hk := findKey_g hK v w hv es.toList l hok hl
  cases hf : findG eqb v l with
  | none =>
    have h1 := hk.1 hf
    constructor <;> simp [Instr.lookup, run_underlying hK.und, MapKept.run_getObj_map hb, hK.chk, h1, hK.zero, Result.andThen]
  | some x =>
    obtain ⟨j, h1⟩ := hk.2 x hf
    constructor <;> simp [Instr.lookup, run_underlying hK.und, MapKept.run_getObj_map hb, hK.chk, h1, Result.andThen]

theorem MapG.update {α : Type} {mt kt et : TypeId} {enc : α → Value} {ok : World → α → Prop} {eqb : α → α → Bool} {z : Value} (hK : Keyed mt kt et enc ok eqb z) {w : World} {M : Nat} {l : List (α × Value)} (h : MapG enc w M l) (v : α) (x : Value) (hv : ok w v) (hok : ∀ p ∈ l, ok w p.1) (hf : findG eqb v l = none) :
    ∃ w', (Instr.mapUpdate mt (.map (some M)) (enc v) x).run Tryz.prog w = .ok () w' ∧ MapG enc w' M (l ++ [(v, x)]) ∧ Only (fun k => k = M) w w' ∧ w'.heap.size = w.heap.size := by
  obtain ⟨es, clk, hb, hl⟩ := h
  have hk := (findKey_g hK v w hv es.toList l hok hl).1 hf
  refine ⟨{ w with heap := w.heap.setIfInBounds M (.map (es.push { key := enc v, val := x, born := clk }) (clk + 1)) }, ?_, ?_, ?_, by simp⟩
  · simp [Instr.mapUpdate, run_underlying hK.und, MapKept.run_getObj_map hb, hK.chk, hk, Result.andThen, MapKept.run_setObj_map _ hb]
  · refine ⟨_, _, by rw [Array.getElem?_setIfInBounds_self_of_lt (blk_lt hb)], ?_⟩
    simp [hl]
  · refine ⟨rfl, rfl, rfl, by simp, fun k _ hk => ?_⟩
    show (w.heap.setIfInBounds M _)[k]? = w.heap[k]?
    rw [Array.getElem?_setIfInBounds_ne (fun e => hk e.symm)]

abbrev ptr (b : Nat) : Value := .pointer (some ⟨b, 0, none⟩)
def IsB (w : World) (b : Nat) : Prop := ∃ ca ta, w.heap[b]? = some (.cells ca ta (0, 0))
theorem size_table : ∃ j, Tryz.prog.info? 121 = some j ∧ j.size ≠ 0 := by
  have h : (Tryz.prog.info? 121).map (fun i => i.size) = some 3 := by kernel_rfl
  cases hi : Tryz.prog.info? 121 with
  | none => rw [hi] at h; cases h
  | some j => rw [hi] at h; exact ⟨j, rfl, by simp at h; omega⟩
theorem eq_ptr (u v : Nat) (w : World) (hu : IsB w u) (hv : IsB w v) (d : Nat) : (Op.equalIn (d + 1) 107 (ptr u) (ptr v)).run Tryz.prog w = .ok (u == v) w := by
  obtain ⟨j, hj, hs⟩ := size_table
  obtain ⟨ca, ta, ha⟩ := hu
  obtain ⟨cb, tb, hb⟩ := hv
  by_cases h : u = v
  · subst h
    simp [Op.equalIn, run_underlying Tryz.underlying107, sizeOf, typeInfo, hj, run_sameAddr_same]
  · have hne : (⟨u, 0, none⟩ : Addr) ≠ ⟨v, 0, none⟩ := fun e => h (by cases e; rfl)
    simp [Op.equalIn, run_underlying Tryz.underlying107, sizeOf, typeInfo, hj, hs, run_sameAddr_other w hne ha hb, h]
theorem findG_mem (f : Nat → Nat) (hf : Nat → Value) (r : Nat) : ∀ (S : List Nat), (∀ i ∈ S, f i = f r → i = r) → (findG (fun a b => a == b) (f r) (S.map fun i => (f i, hf i))).isSome = decide (r ∈ S)
  | [], _ => rfl
  | i :: S, h => by
    simp only [List.map_cons, findG]
    by_cases e : f r = f i
    · rw [if_pos (by simpa using e)]
      have := h i (by simp) e.symm
      subst this
      simp
    · rw [if_neg (by simpa using e), findG_mem f hf r S (fun j hj => h j (by simp [hj]))]
      have : ¬ r = i := fun x => e (by rw [x])
      simp [this]

theorem findG_const {α : Type} (eqb : α → α → Bool) (v : α) (T : Nat → α) (c : Value) : ∀ S : List Nat, (findG eqb v (S.map fun j => (T j, c))).getD c = c
  | [] => rfl
  | i :: S => by
    simp only [List.map_cons, findG]
    split
    · rfl
    · exact findG_const eqb v T c S

end Go.Proofs.YtgflalfiopnmnaaGreatDoor

namespace Go.Proofs.YtgflalfiopnmnaaGreatDoor
open Go.RowKit Vl

def atV (at_ : Nat → Int) (v : V) : V := if v.k = 4 then ⟨v.k, v.n, v.s, at_ v.a.toNat⟩ else v

theorem as_at {n : Nat} {v : V} (hv : isV n v = true) (T : Nat → Nat) (at_ : Nat → Int) :
    ∃ (t : TypeId) (y : Value) (F : Nat), ifv T v = .iface t y ∧ (∀ w f, (method (f + 3) t y "loop.example/cloth/impl.asVal").run Tryz.prog w = .ok (F, y) w) ∧ (∀ args w, (callFunc F args).run Tryz.prog w = .ok (.enter F args) w) ∧
      ∀ w, (∀ j, j < n → w.cell? ⟨T j, 0, none⟩ = some (.int .i64 (at_ j))) → Calls Tryz.prog F #[y] w fun e w' => e = .returned (vAgg (atV at_ v)) ∧ Below w.heap.size w w' := by
  obtain ⟨k, m, s, a⟩ := v
  by_cases k0 : k = 0
  · subst k0
    simp [isV] at hv
    obtain ⟨rfl, hs, rfl⟩ := hv
    obtain rfl := bytes_empty hs
    exact ⟨_, _, _, rfl, meth_0, Tryz.call213, fun w _ => asNil_any w⟩
  by_cases k1 : k = 1
  · subst k1
    simp [isV] at hv
    obtain ⟨hm, hs, rfl⟩ := hv
    obtain rfl := bytes_empty hs
    refine ⟨_, _, _, rfl, meth_1 _, Tryz.call225, fun w _ => (asBool_any _ w).mono ?_⟩
    rintro e w' ⟨rfl, h⟩
    refine ⟨?_, h⟩
    rcases hm with rfl | rfl <;> rfl
  by_cases k2 : k = 2
  · subst k2
    simp [isV] at hv
    obtain ⟨hs, rfl⟩ := hv
    obtain rfl := bytes_empty hs
    exact ⟨_, _, _, rfl, meth_2 _, Tryz.call226, fun w _ => asInt_any m w⟩
  by_cases k3 : k = 3
  · subst k3
    simp [isV] at hv
    obtain ⟨rfl, rfl, _⟩ := hv
    exact ⟨_, _, _, rfl, meth_3 _, Tryz.call227, fun w _ => asText_any s w⟩
  by_cases k4 : k = 4
  · subst k4
    simp [isV] at hv
    obtain ⟨rfl, hs, ha0, ha1⟩ := hv
    obtain rfl := bytes_empty hs
    refine ⟨_, _, _, rfl, meth_4 _, Tryz.call209, fun w hT => asTab_any _ (at_ a.toNat) w ?_⟩
    exact hT a.toNat (by omega)
  · simp [isV, k0, k1, k2, k3, k4] at hv

theorem assert_no {n : Nat} {v : V} (hv : isV n v = true) (h4 : v.k ≠ 4) (T : Nat → Nat) (w : World) : (Instr.typeAssert (ifv T v) 54 107 true).run Tryz.prog w = .ok (.tuple #[.pointer none, .bool false]) w := by
  obtain ⟨q, m, s, a⟩ := v
  by_cases k0 : q = 0
  · subst k0; kernel_rfl
  by_cases k1 : q = 1
  · subst k1; kernel_rfl
  by_cases k2 : q = 2
  · subst k2; kernel_rfl
  by_cases k3 : q = 3
  · subst k3; kernel_rfl
  · have k4 : ¬ q = 4 := h4
    simp [isV, k0, k1, k2, k3, k4] at hv
theorem ifv_tab {v : V} (h4 : v.k = 4) (T : Nat → Nat) : ifv T v = .iface 107 (.pointer (some ⟨T v.a.toNat, 0, none⟩)) := by
  unfold ifv
  rw [if_neg (by omega), if_neg (by omega), if_neg (by omega), if_neg (by omega)]
theorem assert_yes (b : Nat) (w : World) : (Instr.typeAssert (.iface 107 (.pointer (some ⟨b, 0, none⟩))) 54 107 true).run Tryz.prog w = .ok (.tuple #[.pointer (some ⟨b, 0, none⟩), .bool true]) w := by kernel_rfl

structure Tbs (w : World) (n : Nat) (T M : Nat → Nat) (at_ : Nat → Int) (L : Nat → Nat) (K X : Nat → Nat → V) : Prop where
  tab : ∀ j, j < n → ∃ ord, TabB w (T j) (M j) (at_ j) ord ∧ w.ownsRow 0 24 4 ord (L j) (keyCells (keys (K j) (L j)))
  map : ∀ j, j < n → ∃ l, MapIs w (M j) l ∧ ∀ c, c < L j → findV (K j c) l = some (ifv T (X j c))
  inj : ∀ i j, i < n → j < n → T i = T j → i = j
  gone : ∀ j, j < n → ∀ l, MapIs w (M j) l → ∀ v, (∀ c, c < L j → K j c ≠ v) → findV v l = none

theorem vAgg_inj {u v : V} (h : vAgg u = vAgg v) : u = v := by
  obtain ⟨k, n, s, a⟩ := u
  obtain ⟨k', n', s', a'⟩ := v
  simpa [vAgg] using h
theorem map_inj : ∀ (l l' : List (V × Value)), l.map (fun p => (vAgg p.1, p.2)) = l'.map (fun p => (vAgg p.1, p.2)) → l = l'
  | [], [], _ => rfl
  | [], _ :: _, h => by simp at h
  | _ :: _, [], h => by simp at h
  | (u, x) :: l, (v, y) :: l', h => by
    simp only [List.map_cons, List.cons.injEq, Prod.mk.injEq] at h
    obtain ⟨⟨h1, h2⟩, h3⟩ := h
    rw [vAgg_inj h1, h2, map_inj l l' h3]
theorem MapIs.uniq {w : World} {M : Nat} {l l' : List (V × Value)} (h : MapIs w M l) (h' : MapIs w M l') : l = l' := by
  obtain ⟨es, clk, a, b⟩ := h
  obtain ⟨es', clk', a', b'⟩ := h'
  rw [a] at a'
  cases a'
  exact map_inj l l' (b.symm.trans b')
theorem Tbs.noneB {w w' : World} {n : Nat} {T M : Nat → Nat} {at_ : Nat → Int} {L : Nat → Nat} {K X : Nat → Nat → V} (h : Tbs w n T M at_ L K X) (hM : ∀ j, j < n → w'.heap[M j]? = w.heap[M j]?) : ∀ j, j < n → ∀ l, MapIs w' (M j) l → ∀ v, (∀ c, c < L j → K j c ≠ v) → findV v l = none :=
  fun j hj l hl v hv => h.gone j hj l (hl.same (hM j hj).symm) v hv

theorem Tbs.lt {w : World} {n : Nat} {T M : Nat → Nat} {at_ : Nat → Int} {L : Nat → Nat} {K X : Nat → Nat → V} (h : Tbs w n T M at_ L K X) {j : Nat} (hj : j < n) : T j < w.heap.size := by
  obtain ⟨ord, h1, _⟩ := h.tab j hj
  exact blk_lt h1
theorem Tbs.only {w w' : World} {n : Nat} {T M : Nat → Nat} {at_ : Nat → Int} {L : Nat → Nat} {K X : Nat → Nat → V} {P : Nat → Prop} (h : Tbs w n T M at_ L K X) (ho : Only P w w') (hP : ∀ k, k < w.heap.size → ¬ P k) : Tbs w' n T M at_ L K X := by
  refine ⟨fun j hj => ?_, fun j hj => ?_, h.inj, h.noneB (fun j hj => ?_)⟩
  · obtain ⟨ord, h1, h2⟩ := h.tab j hj
    exact ⟨ord, (ho.block _ (blk_lt h1) (hP _ (blk_lt h1))).trans h1, ho.owns h2 (fun g _ hg => hP g hg)⟩
  · obtain ⟨l, h1, h2⟩ := h.map j hj
    exact ⟨l, h1.same (ho.block _ h1.lt (hP _ h1.lt)), h2⟩
  · obtain ⟨l, h1, _⟩ := h.map j hj
    exact ho.block _ h1.lt (hP _ h1.lt)
theorem Tbs.below {w w' : World} {n : Nat} {T M : Nat → Nat} {at_ : Nat → Int} {L : Nat → Nat} {K X : Nat → Nat → V} (h : Tbs w n T M at_ L K X) (hb : Below w.heap.size w w') : Tbs w' n T M at_ L K X :=
  h.only (Only.below (P := fun _ => False) hb) (fun _ _ h => h)
theorem Tbs.at0 {w : World} {n : Nat} {T M : Nat → Nat} {at_ : Nat → Int} {L : Nat → Nat} {K X : Nat → Nat → V} (h : Tbs w n T M at_ L K X) : ∀ j, j < n → w.cell? ⟨T j, 0, none⟩ = some (.int .i64 (at_ j)) := fun j hj => by
  obtain ⟨ord, h1, _⟩ := h.tab j hj
  exact h1.cells.1

theorem Tbs.only' {w w' : World} {n : Nat} {T M : Nat → Nat} {at_ : Nat → Int} {L : Nat → Nat} {K X : Nat → Nat → V} {ob t : Nat} {cs : Array Value} {z : Nat × Nat} (h : Tbs w n T M at_ L K X) (ho : Only (fun k => k = ob) w w') (hob : w.heap[ob]? = some (.cells cs t z)) (h1 : t ≠ 121) (h2 : t ≠ 24) : Tbs w' n T M at_ L K X := by
  refine ⟨fun j hj => ?_, fun j hj => ?_, h.inj, h.noneB (fun j hj => ?_)⟩
  rotate_left 2
  · obtain ⟨l, a1, _⟩ := h.map j hj
    refine ho.block _ a1.lt (fun e => ?_)
    obtain ⟨es, clk, hb, _⟩ := a1
    rw [e, hob] at hb
    cases hb
  · obtain ⟨ord, a1, a2⟩ := h.tab j hj
    refine ⟨ord, (ho.block _ (blk_lt a1) (fun e => ?_)).trans a1, ho.ownsB a2 (fun g hg e => ?_)⟩
    · unfold TabB at a1
      rw [e, hob] at a1
      cases a1
      exact h1 rfl
    · obtain ⟨_, cur, hc⟩ := owns_type a2 hg
      rw [e, hob] at hc
      cases hc
      exact h2 rfl
  · obtain ⟨l, a1, a2⟩ := h.map j hj
    refine ⟨l, a1.same (ho.block _ a1.lt (fun e => ?_)), a2⟩
    obtain ⟨es, clk, hb, _⟩ := a1
    rw [e, hob] at hb
    cases hb

theorem Tbs.setAt {w : World} {n : Nat} {T M : Nat → Nat} {at_ : Nat → Int} {L : Nat → Nat} {K X : Nat → Nat → V} (h : Tbs w n T M at_ L K X) {r : Nat} (hr : r < n) (i : Int) : Tbs (w.setCell ⟨T r, 0, none⟩ (.int .i64 i)) n T M (fun j => if j = r then i else at_ j) L K X := by
  obtain ⟨ordr, hr1, _⟩ := h.tab r hr
  have hne : ∀ k, k ≠ T r → (w.setCell ⟨T r, 0, none⟩ (.int .i64 i)).heap[k]? = w.heap[k]? := fun k hk => Below.heap_setCell _ _ _ _ hk
  refine ⟨fun j hj => ?_, fun j hj => ?_, h.inj, h.noneB (fun j hj => ?_)⟩
  rotate_left 2
  · obtain ⟨l, h1, _⟩ := h.map j hj
    refine hne _ (fun e => ?_)
    obtain ⟨es, clk, hb, _⟩ := h1
    unfold TabB at hr1
    rw [e, hr1] at hb
    cases hb
  · obtain ⟨ord, h1, h2⟩ := h.tab j hj
    refine ⟨ord, ?_, ?_⟩
    · by_cases e : j = r
      · subst e
        rw [if_pos rfl]
        unfold TabB at h1 ⊢
        simp [World.setCell, Array.getElem?_modify, h1]
      · rw [if_neg e]
        exact (hne _ (fun x => e (h.inj j r hj hr x))).trans h1
    · refine ⟨h2.1, ?_⟩
      rcases h2.2 with h3 | ⟨g, cap, cur, hv, hge, hh, rest⟩
      · exact Or.inl h3
      · refine Or.inr ⟨g, cap, cur, hv, hge, ?_, rest⟩
        rw [hne g (fun e => ?_)]
        · exact hh
        · subst e
          unfold TabB at hr1
          rw [hr1] at hh
          cases hh
  · obtain ⟨l, h1, h2⟩ := h.map j hj
    refine ⟨l, h1.same (hne _ (fun e => ?_)), h2⟩
    obtain ⟨es, clk, hb, _⟩ := h1
    unfold TabB at hr1
    rw [e, hr1] at hb
    cases hb

theorem Half.tbs {w : World} {b n : Nat} {u : V} {base L : Nat → Nat} {K X : Nat → Nat → V} (h : Half w b n n base L K X) (hg : OkG n u L K X) : Tbs w n (tT b) (tM b) (fun j => (j : Nat)) L K X := by
  refine ⟨fun j hj => ?_, fun j hj => ?_, fun i j _ _ e => by unfold tT at e; omega, fun j hj l hl v hv => ?_⟩
  rotate_left 2
  · rw [hl.uniq (h.full j hj).1.map, mp_none]
    intro c hc
    cases e : eqV (K j c) v with
    | false => rfl
    | true => exact absurd (eqV_iff.1 e) (hv c hc)
  · obtain ⟨ord, h1, h2⟩ := (h.full j hj).1.tab
    rw [keys_len] at h2
    exact ⟨ord, h1, owns_mono h2 (Nat.zero_le _)⟩
  · refine ⟨_, (h.full j hj).1.map, fun c hc => ?_⟩
    unfold mp
    rw [find_js]
    have : (List.range (L j)).find? (fun i => eqV (K j i) (K j c)) = some c := by
      rw [List.find?_range_eq_some]
      refine ⟨?_, List.mem_range.2 hc, fun i hi => by rw [((hg.all j hj).all c hc).once i hi]; rfl⟩
      simp [eqV]
    rw [this]
    rfl

theorem owns_keys {w : World} {base L : Nat} {v : Value} {K : Nat → V} (h : w.ownsRow base 24 4 v L (keyCells (keys K L))) : v = .slice (slA v) L (slC v) ∧ ValsAt w (slA v) L (slB v) 0 K := by
  have hform : v = .slice (slA v) L (slC v) := by
    obtain ⟨oa, oc, rfl, _⟩ := owns_form h
    rfl
  refine ⟨hform, ?_⟩
  have kat : ∀ (L j i : Nat), j < L → i < 4 → (keyCells (keys K L))[j * 4 + i]? = [Value.int .i64 (K j).k, .int .i64 (K j).n, .string (K j).s, .int .i64 (K j).a][i]? := by
    intro L
    have klen : ∀ L, (keyCells (keys K L)).length = L * 4 := fun L => by
      induction L with
      | zero => rfl
      | succ L ih => rw [keys_succ]; simp only [keyCells, List.flatMap_append, List.length_append] at ih ⊢; rw [ih]; simp; omega
    induction L with
    | zero => intro j i hj; omega
    | succ L ih =>
      intro j i hj hi
      rw [keys_succ]
      have e : keyCells (keys K L ++ [K L]) = keyCells (keys K L) ++ [.int .i64 (K L).k, .int .i64 (K L).n, .string (K L).s, .int .i64 (K L).a] := by simp [keyCells]
      rw [e]
      by_cases e : j = L
      · subst e
        rw [List.getElem?_append_right (by rw [klen]; omega), klen, show j * 4 + i - j * 4 = i by omega]
      · rw [List.getElem?_append_left (by rw [klen]; omega)]
        exact ih j i (by omega) hi
  have top : ∀ j i, j < L → i < 4 → ∃ g cap, v = .slice (some ⟨g, 0, none⟩) L cap ∧ w.cell? ⟨g, j * 4 + i, none⟩ = [Value.int .i64 (K j).k, .int .i64 (K j).n, .string (K j).s, .int .i64 (K j).a][i]? := by
    intro j i hj hi
    have e := kat L j i hj hi
    obtain ⟨y, hy⟩ : ∃ y, [Value.int .i64 (K j).k, .int .i64 (K j).n, .string (K j).s, .int .i64 (K j).a][i]? = some y := ⟨_, List.getElem?_eq_getElem (by simpa using hi)⟩
    rw [hy] at e ⊢
    exact owns_cell h e
  have cell : ∀ j i, j < L → i < 4 → w.cell? ⟨slB v, j * 4 + i, none⟩ = [Value.int .i64 (K j).k, .int .i64 (K j).n, .string (K j).s, .int .i64 (K j).a][i]? := by
    intro j i hj hi
    obtain ⟨g, cap, rfl, hc⟩ := top j i hj hi
    exact hc
  refine ⟨fun h0 => ?_, fun j hj => ?_⟩
  · obtain ⟨g, cap, rfl, _⟩ := top 0 0 h0 (by omega)
    rfl
  · rw [Nat.zero_add]
    exact ⟨cell j 0 hj (by omega), cell j 1 hj (by omega), cell j 2 hj (by omega), cell j 3 hj (by omega)⟩

end Go.Proofs.YtgflalfiopnmnaaGreatDoor

namespace Go.Proofs.YtgflalfiopnmnaaGreatDoor
open Go.RowKit Vl

def vc (P : Nat → V) (i : Nat) : Value :=
  if i % 4 = 0 then .int .i64 (P (i / 4)).k else if i % 4 = 1 then .int .i64 (P (i / 4)).n else if i % 4 = 2 then .string (P (i / 4)).s else .int .i64 (P (i / 4)).a
def VRow (w : World) (B n c : Nat) (P : Nat → V) (z : Nat → Value) : Prop := w.rowIs B 24 (n * 4) (fun i => if i < c * 4 then vc P i else z i)
theorem VRow.below {w w' : World} {B n c : Nat} {P : Nat → V} {z : Nat → Value} (h : VRow w B n c P z) (hb : Below w.heap.size w w') : VRow w' B n c P z := h.of_block (hb.block B h.lt)

end Go.Proofs.YtgflalfiopnmnaaGreatDoor

namespace Go.Proofs.YtgflalfiopnmnaaGreatDoor
open Go.RowKit Vl

structure GetW (w wr : World) (b : Nat) (g : Array Value) (v : V) : Prop where
  graph : wr.heap[b]? = some (.cells g 27 (0, 0))
  res : ValB wr (b + 1) zeroV
  cur : ValB wr (b + 2) v
  bel : Below w.heap.size w wr
theorem GetW.below {w wr wr' : World} {b : Nat} {g : Array Value} {v : V} (h : GetW w wr b g v) (hb : Below wr.heap.size wr wr') : GetW w wr' b g v :=
  ⟨blkB h.graph hb, h.res.below hb, h.cur.below hb, grw h.bel hb⟩
end Go.Proofs.YtgflalfiopnmnaaGreatDoor

namespace Go.Proofs.YtgflalfiopnmnaaGreatDoor
open Go.RowKit Vl

def natCells (S : List Nat) : List Value := S.map fun i => .int .i64 (i : Nat)
theorem natCells_snoc (S : List Nat) (r : Nat) : natCells (S ++ [r]) = natCells S ++ [.int .i64 (r : Nat)] := by simp [natCells]

structure SpW (w0 w : World) (WB WH base : Nat) (u : V) (ta : Option Addr) (n cp : Nat) (ord : Value) (S T : List Nat) : Prop where
  blk : w.heap[WB]? = some (.cells #[.int .i64 u.k, .int .i64 u.n, .string u.s, .int .i64 u.a, .slice ta n cp, .slice (some ⟨WH, 0, none⟩) n n, ord] 145 (0, 0))
  row : w.rowIs WH 3 n (fun i => .int .i64 (whereIs S i))
  own : w.ownsRow base 3 1 ord T.length (natCells T)
  bel : Below w0.heap.size w0 w

theorem SpW.below {w0 w w' : World} {WB WH base : Nat} {u : V} {ta : Option Addr} {n cp : Nat} {ord : Value} {S T : List Nat} (h : SpW w0 w WB WH base u ta n cp ord S T) (hb : Below w.heap.size w w') : SpW w0 w' WB WH base u ta n cp ord S T :=
  ⟨blkB h.blk hb, h.row.of_block (hb.block _ h.row.lt), (Only.below (P := fun _ => False) hb).owns h.own (fun _ _ _ h => h), h.bel.trans (hb.mono h.bel.size)⟩

theorem cells7 {w : World} {B : Nat} {a b c d e f g : Value} {t : TypeId} (H : w.heap[B]? = some (.cells #[a, b, c, d, e, f, g] t (0, 0))) :
    w.cell? ⟨B, 4, none⟩ = some e ∧ w.cell? ⟨B, 5, none⟩ = some f ∧ w.cell? ⟨B, 6, none⟩ = some g ∧ ∀ i, w.frozen? ⟨B, i, none⟩ = false := by
  refine ⟨?_, ?_, ?_, fun i => ?_⟩ <;> simp [World.cell?, World.frozen?, H]

theorem SpW.mark {w0 w : World} {WB WH base : Nat} {u : V} {ta : Option Addr} {n cp : Nat} {ord : Value} {S : List Nat} (h : SpW w0 w WB WH base u ta n cp ord S S) (hB : SpB w0 WB WH base) {r : Nat} (hr : r ∉ S) :
    SpW w0 (w.setCell ⟨WH, r, none⟩ (.int .i64 (S.length : Nat))) WB WH base u ta n cp ord (S ++ [r]) S ∧ FrV WB WH ord ord w (w.setCell ⟨WH, r, none⟩ (.int .i64 (S.length : Nat))) := by
  refine ⟨⟨(Below.heap_setCell _ _ _ _ hB.ne).trans h.blk, ?_, ?_, h.bel.setCell hB.wh _⟩, ⟨(Only.refl _ _).set (Or.inr (Or.inl rfl)) _, fun _ _ h => h⟩⟩
  · refine (h.row.set r _).congr (fun i _ => ?_)
    rw [whereIs_add hr]
    by_cases e : i = r
    · rw [if_pos e, if_pos e]
    · rw [if_neg e, if_neg e]
  · refine ownsRow_setCell_other h.own (fun e => ?_) _
    obtain ⟨_, _, _, hk⟩ := owns_form h.own
    have := (hk _ e).1
    have := hB.whb
    simp only at *
    omega

theorem SpW.put {w0 w w3 : World} {WB WH base g cap : Nat} {u : V} {ta : Option Addr} {n cp : Nat} {ord : Value} {S T : List Nat} {r : Nat} {o : Obj} (h : SpW w0 w WB WH base u ta n cp ord S T) (hB : SpB w0 WB WH base) (hgrow : (w.alloc o).drew.grownBy w3 ord.ownBlock)
    (hown : w3.ownsRow base 3 1 (.slice (some ⟨g, 0, none⟩) (T.length + 1) cap) (T.length + 1) (natCells T ++ [.int .i64 (r : Nat)])) (hat : w.heap.size ≤ g ∨ ord.ownBlock = some g) :
    (w3.cell? ⟨WB, 6, none⟩ = some ord ∧ ∀ j, w3.frozen? ⟨WB, j, none⟩ = false) ∧ SpW w0 (w3.setCell ⟨WB, 6, none⟩ (.slice (some ⟨g, 0, none⟩) (T.length + 1) cap)) WB WH base u ta n cp (.slice (some ⟨g, 0, none⟩) (T.length + 1) cap) S (T ++ [r]) ∧
      FrV WB WH ord (.slice (some ⟨g, 0, none⟩) (T.length + 1) cap) w (w3.setCell ⟨WB, 6, none⟩ (.slice (some ⟨g, 0, none⟩) (T.length + 1) cap)) := by
  obtain ⟨_, _, _, hk⟩ := owns_form h.own
  have hwb : WB < w.heap.size := blk_lt h.blk
  have hwh : WH < w.heap.size := h.row.lt
  have hbl : ∀ k, k < w.heap.size → ord.ownBlock ≠ some k → w3.heap[k]? = w.heap[k]? := fun k hk hne =>
    (hgrow.block k (by show k < (w.alloc o).heap.size; simp; omega) (fun e => hne e.symm)).trans (Below.heap_alloc w o k hk)
  have n1 : ord.ownBlock ≠ some WB := fun e => by have := (hk _ e).1; have := hB.wbb; omega
  have n2 : ord.ownBlock ≠ some WH := fun e => by have := (hk _ e).1; have := hB.whb; omega
  have hblk := (hbl WB hwb n1).trans h.blk
  have hc := cells7 hblk
  have hgb : base ≤ g := by
    obtain ⟨_, _, e, hk'⟩ := owns_form hown
    exact (hk' g (by simp [Value.ownBlock])).1
  have hsz : w.heap.size ≤ w3.heap.size := by have := hgrow.size; simp [World.drew] at this; omega
  have ho : Only (fun k => k = WB ∨ k = WH ∨ ord.ownBlock = some k) w w3 := ⟨hgrow.os, hgrow.tape, hgrow.output, hsz, fun k hk hp => hbl k hk (fun e => hp (Or.inr (Or.inr e)))⟩
  refine ⟨⟨hc.2.2.1, hc.2.2.2⟩, ⟨?_, ?_, ?_, ?_⟩, ⟨ho.set (Or.inl rfl) _, fun k hk' e => ?_⟩⟩
  · simp [World.setCell, Array.getElem?_modify, hblk]
  · exact h.row.of_block ((Below.heap_setCell _ _ _ _ (fun e => hB.ne e.symm)).trans (hbl WH hwh n2))
  · rw [natCells_snoc, show (T ++ [r]).length = T.length + 1 by simp]
    exact ownsRow_setCell_other (a := ⟨WB, 6, none⟩) hown (by have := hB.wbb; simp only [Value.ownBlock, ne_eq, Option.some.injEq]; omega) _
  · refine (h.bel.trans (ho.toBelow (base := w0.heap.size) (fun k hk' => ?_) h.bel.size)).setCell hB.wb _
    rcases hk' with rfl | rfl | e
    · exact hB.wb
    · exact hB.wh
    · have := (hk _ e).1; have := hB.wb; have := hB.wbb; omega
  · simp only [Value.ownBlock, Option.some.injEq] at e
    subst e
    rcases hat with h' | h'
    · omega
    · exact h'

theorem SpW.far {w0 w w' : World} {WB WH base : Nat} {u : V} {ta : Option Addr} {n cp : Nat} {ord : Value} {S T : List Nat} {P : Nat → Prop} (h : SpW w0 w WB WH base u ta n cp ord S T) (ho : Only P w w') (h1 : ¬ P WB) (h2 : ¬ P WH) (h3 : ∀ g, ord.ownBlock = some g → ¬ P g) (h4 : ∀ k, P k → w0.heap.size ≤ k) : SpW w0 w' WB WH base u ta n cp ord S T :=
  ⟨(ho.block _ (blk_lt h.blk) h1).trans h.blk, h.row.of_block (ho.block _ h.row.lt h2), ho.ownsB h.own h3, h.bel.trans (ho.toBelow h4 h.bel.size)⟩

end Go.Proofs.YtgflalfiopnmnaaGreatDoor

namespace Go.Proofs.YtgflalfiopnmnaaGreatDoor
open Go.RowKit Vl

theorem share {G P : Prop} (h : Hid G → P) (g : G) : P := h g
theorem Tryz.infoN : (Tryz.prog.info? 3).map (fun i => (i.zero, i.size, i.bytes)) = some (some (.int .i64 0), 1, 8) := by kernel_rfl

set_option maxHeartbeats 2000000 in
set_option maxRecDepth 100000 in
theorem val_any (u : V) (ta : Option Addr) (n cp TB TO : Nat) (A : Nat → Option Addr) (L C RB RO : Nat → Nat) (K X : Nat → Nat → V) (w0 : World) (WB WH base : Nat) (hn : n ≤ 200) (HL : Hid (∀ r, r < n → L r ≤ 100)) (HG : Hid (Good n L X))
    (HT : Hid (TabsAt w0 ta n TB TO A L C RB RO K X)) (HB : Hid (SpB w0 WB WH base)) : ∀ (f : Nat) (S : List Nat) (v : V) (w : World) (ord : Value), Hid (Fit n S) → isV n v = true → n - S.length < f → base ≤ w.heap.size → Hid (SpW w0 w WB WH base u ta n cp ord S S) →
    Calls Tryz.prog 61 #[.pointer (some ⟨WB, 0, none⟩), .agg #[.int .i64 v.k, .int .i64 v.n, .string v.s, .int .i64 v.a]] w fun e w' => e = .returned (vAgg (renum (met L X f S v) v)) ∧ ∃ ord', SpW w0 w' WB WH base u ta n cp ord' (met L X f S v) (met L X f S v) ∧ FrV WB WH ord ord' w w' := by
  intro f
  induction f with
  | zero => intro S v w ord _ _ h; omega
  | succ f ih =>
    intro S v w ord HF hv hf hbase HW
    by_cases h4 : v.k = 4
    · obtain ⟨a0, a1⟩ := isV_tab hv h4
      obtain ⟨r, hr⟩ : ∃ r : Nat, v.a = r := ⟨v.a.toNat, by omega⟩
      have hrn : r < n := by omega
      obtain ⟨oa, oc, ho, hok⟩ := owns_form HW.out.own
      have A2 : Hid _ := alloc2 w (.cells #[.int .i64 v.k, .int .i64 v.n, .string v.s, .int .i64 v.a] 24) (.cells #[.int .i64 0, .int .i64 0, .string ⟨#[]⟩, .int .i64 0] 24)
      obtain ⟨w1, hw1⟩ : ∃ w1, w1 = (w.alloc (.cells #[.int .i64 v.k, .int .i64 v.n, .string v.s, .int .i64 v.a] 24)).alloc (.cells #[.int .i64 0, .int .i64 0, .string ⟨#[]⟩, .int .i64 0] 24) := ⟨_, rfl⟩
      have HB1 : Hid (Below w.heap.size w w1) := by rw [hw1]; exact A2.out.2.2.2
      have V1 : Hid (ValB w1 w.heap.size v) := by rw [hw1]; exact A2.out.1
      have R1 : Hid (ValB w1 (w.heap.size + 1) zeroV) := by rw [hw1]; exact A2.out.2.1
      have Z1 : Hid (w1.heap.size = w.heap.size + 2) := by rw [hw1]; exact A2.out.2.2.1
      have HW1 : Hid (SpW w0 w1 WB WH base u ta n cp ord S S) := HW.out.below HB1.out
      clear A2
      obtain ⟨x4, x5, x6, x7⟩ := cells7 HW.out.blk
      have xr := HW.out.row.cell hrn
      have l1 : WB < w.heap.size := blk_lt HW.out.blk
      have l2 : WH < w.heap.size := HW.out.row.lt
      have hbd : (0 : Int) ≤ (r : Int) ∧ (r : Int) < (n : Int) := by omega
      have hne : (v.k != 4) = false := by simpa using h4
      by_cases hm : r ∈ S
      · rw [whereIs_in hm] at xr
        have hE : Hid (met L X (f + 1) S v = S) := met_old (Or.inr (by rw [hr]; exact hm))
        have hR : Hid (renum S v = ⟨v.k, v.n, v.s, (S.idxOf r : Nat)⟩) := by
          show renum S v = _
          unfold renum
          rw [if_pos h4, hr]
          rfl
        obtain ⟨q, hq⟩ : ∃ q : Nat, S.idxOf r = q := ⟨_, rfl⟩
        rw [hq] at xr hR
        rw [hE.out, hR.out]
        have hge : ¬ ((q : Int) < 0) := by omega
        rw [hr]
        clear h4 hr x4 x6 hw1 HW1 HB1 V1 R1 Z1
        go_enter Tryz.func61, Tryz.ntmps61
        go_wp2
        go_region
        all_goals (try go_wp2)
        go_region
        all_goals (try go_wp2)
        have hb : Below w.heap.size w ((w.alloc (.cells #[.int .i64 v.k, .int .i64 v.n, .string v.s, .int .i64 (q : Nat)] 24)).alloc (.cells #[.int .i64 v.k, .int .i64 v.n, .string v.s, .int .i64 (q : Nat)] 24)) := ((Below.refl _ _).alloc (Nat.le_refl _) _).alloc (by simp) _
        refine bodyPost_ret (v := vAgg ⟨v.k, v.n, v.s, (q : Nat)⟩) (by simp [results, Tryz.results61, go_sem]) rfl ⟨rfl, ord, HW.out.below hb.drew.drew, FrV.first hb.drew.drew⟩
      · rw [whereIs_out hm] at xr
        have xz := HW.out.row.frozen r
        subst ho
        have hE : Hid (met L X (f + 1) S v = mets L X f (S ++ [r]) (X r) (L r)) := by
          have := met_new (L := L) (X := X) (f := f) (S := S) h4 (by rw [hr]; exact hm)
          rw [hr] at this
          exact this
        have HH4 : Hid (v.k = 4) := h4
        have HR0 : Hid (v.a = r) := hr
        rw [hr]
        rw [hE.out]
        clear h4 hr x4
        go_enter Tryz.func61, Tryz.ntmps61
        go_wp2
        go_region
        all_goals (try go_wp2)
        go_region
        all_goals (try go_wp2)
        obtain ⟨hWm, hFm⟩ := HW.out.mark HB.out hm
        obtain ⟨wm, hwm⟩ : ∃ wm, wm = w.setCell ⟨WH, r, none⟩ (.int .i64 (S.length : Nat)) := ⟨_, rfl⟩
        rw [← hwm] at hWm hFm ⊢
        have hszm : wm.heap.size = w.heap.size := by rw [hwm]; simp [World.setCell]
        clear hwm hw1 HW1 HB1 V1 R1 Z1
        have A2 : Hid _ := alloc2 wm (.cells #[.int .i64 v.k, .int .i64 v.n, .string v.s, .int .i64 (r : Nat)] 24) (.cells #[.int .i64 0, .int .i64 0, .string ⟨#[]⟩, .int .i64 0] 24)
        obtain ⟨w2, hw2⟩ : ∃ w2, w2 = ((wm.alloc (.cells #[.int .i64 v.k, .int .i64 v.n, .string v.s, .int .i64 (r : Nat)] 24)).alloc (.cells #[.int .i64 0, .int .i64 0, .string ⟨#[]⟩, .int .i64 0] 24)).drew.drew := ⟨_, rfl⟩
        rw [← hw2]
        rw [hszm] at A2
        have hb2 : Below wm.heap.size wm w2 := by rw [hw2, hszm]; exact A2.out.2.2.2.drew.drew
        have V2 : Hid (ValB w2 w.heap.size ⟨v.k, v.n, v.s, (r : Nat)⟩) := by rw [hw2]; exact A2.out.1
        have R2 : Hid (ValB w2 (w.heap.size + 1) zeroV) := by rw [hw2]; exact A2.out.2.1
        have Z2 : Hid (w2.heap.size = w.heap.size + 2) := by rw [hw2]; exact A2.out.2.2.1
        have HW2 : Hid (SpW w0 w2 WB WH base u ta n cp (.slice oa S.length oc) (S ++ [r]) S) := hWm.below hb2
        have HF2 : Hid (FrV WB WH (.slice oa S.length oc) (.slice oa S.length oc) w w2) := hFm.below hb2
        clear hw2 hb2 hWm hFm hszm A2 x5 x6 x7 xr xz
        obtain ⟨i0, hi, hz0, hz1, hz2⟩ := info_parts Tryz.infoN
        obtain ⟨_, _, x6, _⟩ := cells7 HW2.out.blk
        obtain ⟨_, _, _, c3, _⟩ := cells4 V2.out
        simp only at c3
        apply share
        · intro hG
          refine wp_region_held_drew (S := fun w' => w'.cell? ⟨w.heap.size, 3, none⟩ = some (.int .i64 (r : Nat))) (by kernel_rfl) c3 (fun hHeld => ?_)
          refine wpT (i := 0) (v := .pointer (some ⟨WB, 0, none⟩)) rfl (fun w hSw => ?_) hHeld ?_
          · first | rfl | go_simp
          simp only [Act.put, pz]
          refine wpT (i := 1) (v := .pointer (some ⟨WB, 0, none⟩)) rfl (fun w hSw => ?_) hHeld ?_
          · first | rfl | go_simp
          simp only [Act.put, pz]
          refine wpT (i := 2) (v := .pointer (some ⟨WB, 0, none⟩)) rfl (fun w hSw => ?_) hHeld ?_
          · first | rfl | go_simp
          simp only [Act.put, pz]
          refine wpT (i := 3) (v := .pointer (some ⟨WB, 6, none⟩)) rfl (fun w hSw => ?_) hHeld ?_
          · first | rfl | go_simp
          simp only [Act.put, pz]
          refine wpT (i := 5) (v := .pointer (some ⟨w.heap.size, 3, none⟩)) rfl (fun w hSw => ?_) hHeld ?_
          · first | rfl | go_simp
          simp only [Act.put, pz]
          refine wpT (i := 6) (v := .int .i64 (r : Nat)) rfl (fun w hSw => ?_) hHeld ?_
          · first | rfl | (go_simp)
          simp only [Act.put, pz]
          refine wpAnyH_ready (rs := [4, 7]) (by kernel_rfl) (by simp) ?_
          refine AllReadyH.cons rfl (fun K' hK' => ?_) (AllReadyH.cons rfl (fun K' hK' => ?_) AllReadyH.nil)
          · go_simp
            refine hK'.out _ _ c3 (fun hHeld => ?_)
            clear hK'
            refine wpAnyH_ready (rs := [7]) (by kernel_rfl) (by simp) ?_
            refine AllReadyH.cons rfl (fun K' hK' => ?_) AllReadyH.nil
            go_simp
            refine hK'.out _ _ ?_ (fun hHeld => ?_)
            · exact (((Below.refl w2.heap.size w2).alloc (Nat.le_refl _) _).drew.cell (p := ⟨w.heap.size, 3, none⟩) (by have := Z2.out; show w.heap.size < _; omega)).trans c3
            clear hK'
            exact hG.out
          · go_simp
            refine hK'.out _ _ ?_ (fun hHeld => ?_)
            · exact (((Below.refl w2.heap.size w2).alloc (Nat.le_refl _) _).drew.cell (p := ⟨w.heap.size, 3, none⟩) (by have := Z2.out; show w.heap.size < _; omega)).trans c3
            clear hK'
            have x6' : ∀ o, (w2.alloc o).cell? ⟨WB, 6, none⟩ = some (.slice oa S.length oc) := fun o => (((Below.refl w2.heap.size w2).alloc (Nat.le_refl _) o).cell (p := ⟨WB, 6, none⟩) (blk_lt HW2.out.blk)).trans x6
            refine wpAnyH_ready (rs := [4]) (by kernel_rfl) (by simp) ?_
            refine AllReadyH.cons rfl (fun K' hK' => ?_) AllReadyH.nil
            go_simp
            refine hK'.out _ _ ?_ (fun hHeld => ?_)
            · exact (((Below.refl w2.heap.size w2).alloc (Nat.le_refl _) _).drew.cell (p := ⟨w.heap.size, 3, none⟩) (by have := Z2.out; show w.heap.size < _; omega)).trans c3
            clear hK'
            exact hG.out
        · have hHeld : (fun w' : World => w'.cell? ⟨w.heap.size, 3, none⟩ = some (.int .i64 (r : Nat))) (w2.alloc (.cells #[.int .i64 (r : Nat)] 3)).drew := (((Below.refl w2.heap.size w2).alloc (Nat.le_refl _) _).drew.cell (p := ⟨w.heap.size, 3, none⟩) (by have := Z2.out; show w.heap.size < _; omega)).trans c3
          have hSl : S.length ≤ 200 := Nat.le_trans HF.out.len hn
          have hz2s := Z2.out
          refine wpAnyH_ready (rs := [8]) (by kernel_rfl) (by simp) ?_
          refine AllReadyH.cons rfl (fun K' hK' => ?_) AllReadyH.nil
          refine step_append_lies _ (by rfl) (.tmp 36) (.tmp 39) 93 (by rfl) base 3 i0 (.int .i64 0) 1 8 Tryz.underlying93 hi hz0 hz1 hz2 (by rfl) (by omega) (.slice oa S.length oc) S.length (natCells S) (by rfl) (((Only.below (P := fun _ => False) (((Below.refl w2.heap.size w2).alloc (Nat.le_refl _) _).drew)).owns HW2.out.own (fun _ _ _ h => h))) ⟨w2.heap.size, 0, none⟩ 1 1 [.int .i64 (r : Nat)] (by rfl) (by rfl) (World.news_of_block (w := (w2.alloc _).drew) (heap_alloc_new w2 _)) (by intro u hu; simp at hu; subst hu; rfl) (by omega) (by unfold maxLen; omega) (by omega) (by show base ≤ (w2.alloc _).heap.size; simp; omega) (w2.heap.size + 1) (by show (w2.alloc _).heap.size = _; simp) ?_
          intro g cap w3 hown3 hgrow3 hat hlt
          obtain ⟨⟨e6, ez⟩, hW4, hF4⟩ := HW2.out.put HB.out hgrow3 hown3 (by rcases hat with h | h; exact Or.inr h; exact Or.inl (by omega))
          have HW4 : Hid _ := hW4
          have HF4 : Hid _ := hF4
          have S3 : w3.cell? ⟨w.heap.size, 3, none⟩ = some (.int .i64 (r : Nat)) := (hgrow3.cell_far ⟨w.heap.size, 3, none⟩ (by show w.heap.size < (w2.alloc _).heap.size; simp; omega) (fun e => by have := (hok _ e.symm).2; simp only at this; omega)).trans hHeld
          have S4 : Hid ((w3.setCell ⟨WB, 6, none⟩ (.slice (some ⟨g, 0, none⟩) (S.length + 1) cap)).cell? ⟨w.heap.size, 3, none⟩ = some (.int .i64 (r : Nat))) := by
            have e := Below.heap_setCell w3 ⟨WB, 6, none⟩ (.slice (some ⟨g, 0, none⟩) (S.length + 1) cap) w.heap.size (show w.heap.size ≠ WB by omega)
            show _ = _
            rw [World.cell?_of_block e]
            exact S3
          refine hK'.out _ _ S3 (fun hHeld => ?_)
          clear hK' hW4 hF4 hown3 hgrow3 hat
          simp only [Act.put, pz]
          refine wpT (i := 9) (v := .pointer (some ⟨WB, 0, none⟩)) rfl (fun w hSw => ?_) hHeld ?_
          · first | rfl | go_simp
          simp only [Act.put, pz]
          refine wpT (i := 10) (v := .pointer (some ⟨WB, 6, none⟩)) rfl (fun w hSw => ?_) hHeld ?_
          · first | rfl | go_simp
          simp only [Act.put, pz]
          refine wpAnyH_ready (rs := [11]) (by kernel_rfl) (by simp) ?_
          refine AllReadyH.cons rfl (fun K' hK' => ?_) AllReadyH.nil
          clear hHeld S3
          go_simp
          refine hK'.out _ _ S4.out (fun hHeld => ?_)
          clear hK' hHeld
          refine wpAnyH_done (by kernel_rfl) ?_ _
          obtain ⟨w4, hw4⟩ : ∃ w4, w4 = w3.setCell ⟨WB, 6, none⟩ (.slice (some ⟨g, 0, none⟩) (S.length + 1) cap) := ⟨_, rfl⟩
          rw [← hw4] at HW4 HF4 ⊢
          clear hw4 S4 e6 ez hlt c3 x6 hi hz0 hz1 hz2
          obtain ⟨ord4, ho4⟩ : ∃ o, Value.slice (some ⟨g, 0, none⟩) (S.length + 1) cap = o := ⟨_, rfl⟩
          rw [ho4] at HW4 HF4
          have hta := HT.out.top (by omega)
          subst hta
          obtain ⟨x4, x5, x6, x7⟩ := cells7 HW4.out.blk
          have V4 : Hid (ValB w4 w.heap.size ⟨v.k, v.n, v.s, (r : Nat)⟩) := HF4.out.blk V2.out (by omega) (by omega) (fun e => by have := (hok _ e).2; omega)
          obtain ⟨_, _, _, c3, _⟩ := cells4 V4.out
          simp only at c3
          have HT4 : Hid (TabsAt w4 (some ⟨TB, TO, none⟩) n TB TO A L C RB RO K X) := HT.out.below HW4.out.bel
          have t0 := HT4.out.tab r hrn
          obtain ⟨pa, hpa⟩ : ∃ a, A r = a := ⟨_, rfl⟩
          rw [hpa] at t0
          have HP : Hid (PairsAt w0 pa (L r) (RB r) (RO r) (K r) (X r)) := hpa ▸ HT.out.row r hrn
          have hLr := HL.out r hrn
          go_wp2
          go_region
          all_goals (try go_wp2)
          have HW5 : Hid (SpW w0 w4.drew WB WH base u (some ⟨TB, TO, none⟩) n cp ord4 (S ++ [r]) (S ++ [r])) := HW4.out.below (Below.refl _ _).drew
          have HF5 : Hid (FrV WB WH (.slice oa S.length oc) ord4 w2 w4.drew) := HF4.out.below (Below.refl _ _).drew
          have HA : Hid (Grows n S (S ++ [r])) := HF.out.add hrn hm
          clear x4 x5 x6 x7 c3 t0 V4 HT4 HW4 HF4 hpa ho4 hbd
          have hszS : n - (S ++ [r]).length < f := by
            have := HF.out.less hrn hm
            simp
            omega
          go_loopw [54] (fun ii wr => ∃ (c : Nat) (oc' : Value), c ≤ L r ∧ ii = .int .i64 c ∧ Hid (Grows n (S ++ [r]) (mets L X f (S ++ [r]) (X r) c)) ∧ Hid (SpW w0 wr WB WH base u (some ⟨TB, TO, none⟩) n cp oc' (mets L X f (S ++ [r]) (X r) c) (mets L X f (S ++ [r]) (X r) c)) ∧ Hid (FrV WB WH (.slice oa S.length oc) oc' w2 wr)) (fun ii _ => L r - (intOf ii).toNat)
          case atStart => exact ⟨0, ord4, Nat.zero_le _, rfl, HA.out.fit.refl, HW5, HF5⟩
          case round =>
            obtain ⟨c, o5, hc, rfl, HGr, HWr, HFr⟩ := hrel
            clear HW5 HF5
            have hsr : w2.heap.size ≤ wr.heap.size := HFr.out.only.size
            by_cases hlt : c < L r
            · obtain rfl := HP.out.top (by omega)
              obtain ⟨⟨k0, k1, k2, k3⟩, ⟨v0, v1, v2, v3⟩⟩ := (HP.out.below HWr.out.bel).cells hlt
              obtain ⟨Sc, HSc⟩ : ∃ Sc, Hid (mets L X f (S ++ [r]) (X r) c = Sc) := ⟨_, rfl⟩
              rw [HSc.out] at HGr HWr
              have HSn : Hid (mets L X f (S ++ [r]) (X r) (c + 1) = met L X f Sc (X r c)) := by rw [mets_succ, HSc.out]; exact rfl
              obtain ⟨wp, hwp⟩ : ∃ wp, wp = wr.alloc (.cells #[.int .i64 (K r c).k, .int .i64 (K r c).n, .string (K r c).s, .int .i64 (K r c).a, .int .i64 (X r c).k, .int .i64 (X r c).n, .string (X r c).s, .int .i64 (X r c).a] 39) := ⟨_, rfl⟩
              have hbp : Below wr.heap.size wr wp := by rw [hwp]; exact (Below.refl _ _).alloc (Nat.le_refl _) _
              have HWp : Hid (SpW w0 wp WB WH base u (some ⟨TB, TO, none⟩) n cp o5 Sc Sc) := HWr.out.below hbp
              have HFp : Hid (FrV WB WH (.slice oa S.length oc) o5 w2 wp) := HFr.out.below hbp
              have hiv := HG.out r hrn c hlt
              have hlen := HGr.out.len
              have hcall := ih Sc (X r c) wp o5 HGr.out.fit hiv (by omega) (by have := hbp.size; omega) HWp
              have hall := met_all HG.out f Sc (X r c) HGr.out.fit hiv (by omega)
              have HGn : Hid (Grows n (S ++ [r]) (met L X f Sc (X r c))) := HGr.out.trans hall.1
              clear hall hlen hbp hiv
              go_wp2_with fail
              rw [← hwp]
              refine hcall.mono ?_
              clear hcall hwp k0 k1 k2 k3 v0 v1 v2 v3
              rintro e w5 ⟨rfl, o6, hW6, hF6⟩
              have HW6 : Hid (SpW w0 w5 WB WH base u (some ⟨TB, TO, none⟩) n cp o6 (met L X f Sc (X r c)) (met L X f Sc (X r c))) := hW6
              have HF6 : Hid (FrV WB WH (.slice oa S.length oc) o6 w2 w5) := HFp.out.trans hF6
              clear hW6 hF6 HWp HFp HWr HFr
              go_wp2
              go_roundw
              case rel => exact ⟨c + 1, o6, by omega, by go_num, by rw [HSn.out]; exact HGn, by rw [HSn.out]; exact HW6, HF6⟩
              case measure => simp [intOf]; omega
            · obtain rfl : c = L r := by omega
              obtain ⟨Sc, HSc⟩ : ∃ Sc, Hid (mets L X f (S ++ [r]) (X r) (L r) = Sc) := ⟨_, rfl⟩
              rw [HSc.out] at HGr HWr
              have hmem : r ∈ Sc := HGr.out.mem (by simp)
              obtain ⟨q, hq⟩ : ∃ q : Nat, Sc.idxOf r = q := ⟨_, rfl⟩
              have hR : Hid (renum Sc v = ⟨v.k, v.n, v.s, (q : Nat)⟩) := by
                show renum Sc v = _
                unfold renum
                rw [if_pos HH4.out, HR0.out, ← hq]
                rfl
              have xr := HWr.out.row.cell hrn
              rw [whereIs_in hmem, hq] at xr
              obtain ⟨x4, x5, x6, x7⟩ := cells7 HWr.out.blk
              have n0 : ∀ k, w.heap.size ≤ k → (Value.slice oa S.length oc).ownBlock ≠ some k := fun k hk e => by have := (hok _ e).2; omega
              have Vr : Hid (ValB wr w.heap.size ⟨v.k, v.n, v.s, (r : Nat)⟩) := HFr.out.blk V2.out (by omega) (by omega) (n0 _ (by omega))
              have Rr : Hid (ValB wr (w.heap.size + 1) zeroV) := HFr.out.blk R2.out (by omega) (by omega) (n0 _ (by omega))
              obtain ⟨c0, c1, c2, c3, c4⟩ := cells4 Vr.out
              obtain ⟨r0, r1, r2, r3, r4⟩ := cells4 Rr.out
              simp only at c0 c1 c2 c3
              have hbd : (0 : Int) ≤ (r : Int) ∧ (r : Int) < (n : Int) := by omega
              go_wp2
              go_region
              all_goals (try go_wp2)
              have hz2s := Z2.out
              have ho : Only (fun k => k = w.heap.size ∨ k = w.heap.size + 1) wr (((((wr.setCell ⟨w.heap.size, 3, none⟩ (.int .i64 (q : Nat))).setCell ⟨w.heap.size + 1, 0, none⟩ (.int .i64 v.k)).setCell ⟨w.heap.size + 1, 1, none⟩ (.int .i64 v.n)).setCell ⟨w.heap.size + 1, 2, none⟩ (.string v.s)).setCell ⟨w.heap.size + 1, 3, none⟩ (.int .i64 (q : Nat))).drew :=
                ((((((Only.refl _ _).set (Or.inl rfl) _).set (Or.inr rfl) _).set (Or.inr rfl) _).set (Or.inr rfl) _).set (Or.inr rfl) _).trans (Only.below ((Below.refl _ _).drew))
              have hfin : ValB ((((wr.setCell ⟨w.heap.size, 3, none⟩ (.int .i64 (q : Nat))).setCell ⟨w.heap.size + 1, 0, none⟩ (.int .i64 v.k)).setCell ⟨w.heap.size + 1, 1, none⟩ (.int .i64 v.n)).setCell ⟨w.heap.size + 1, 2, none⟩ (.string v.s) |>.setCell ⟨w.heap.size + 1, 3, none⟩ (.int .i64 (q : Nat))) (w.heap.size + 1) ⟨v.k, v.n, v.s, (q : Nat)⟩ :=
                ValB.put (show ValB _ (w.heap.size + 1) zeroV from (Below.heap_setCell _ _ _ _ (show w.heap.size + 1 ≠ w.heap.size by omega)).trans Rr.out) ⟨v.k, v.n, v.s, (q : Nat)⟩
              obtain ⟨q0, q1, q2, q3, _⟩ := cells4 hfin
              simp only at q0 q1 q2 q3
              rw [HSc.out, hR.out]
              refine bodyPost_ret (v := vAgg ⟨v.k, v.n, v.s, (q : Nat)⟩) (by simp [results, Tryz.results61, go_sem, q0, q1, q2, q3]) rfl ⟨rfl, o5, ?_, ?_⟩
              · refine HWr.out.far ho (by omega) (by omega) (fun k hk hP => ?_) (fun k hP => ?_)
                · have hlt2 : k < w2.heap.size := by omega
                  have := (hok _ (HFr.out.nxt k hlt2 hk)).2
                  omega
                · have := HB.out.wb
                  omega
              · exact (HF2.out.trans HFr.out).new (ho.toBelow (fun k hP => by omega) (by omega))
    · have hne : (v.k != 4) = true := by simpa using h4
      have hE : Hid (met L X (f + 1) S v = S) := met_old (Or.inl h4)
      have hR : Hid (renum S v = v) := by show renum S v = v; unfold renum; rw [if_neg h4]
      rw [hE.out, hR.out]
      go_enter Tryz.func61, Tryz.ntmps61
      go_wp2
      have hb : Below w.heap.size w ((w.alloc (.cells #[.int .i64 v.k, .int .i64 v.n, .string v.s, .int .i64 v.a] 24)).alloc (.cells #[.int .i64 v.k, .int .i64 v.n, .string v.s, .int .i64 v.a] 24)) := ((Below.refl _ _).alloc (Nat.le_refl _) _).alloc (by simp) _
      refine bodyPost_ret (v := vAgg v) (by simp [results, Tryz.results61, go_sem]) rfl ⟨rfl, ord, HW.out.below hb, FrV.first hb⟩

end Go.Proofs.YtgflalfiopnmnaaGreatDoor

namespace Go.Proofs.YtgflalfiopnmnaaGreatDoor
open Go.RowKit Vl

def pairCells (K X : Nat → V) (c : Nat) : List Value := (List.range c).flatMap fun j => [.int .i64 (K j).k, .int .i64 (K j).n, .string (K j).s, .int .i64 (K j).a, .int .i64 (X j).k, .int .i64 (X j).n, .string (X j).s, .int .i64 (X j).a]
theorem pairCells_succ (K X : Nat → V) (c : Nat) : pairCells K X (c + 1) = pairCells K X c ++ [.int .i64 (K c).k, .int .i64 (K c).n, .string (K c).s, .int .i64 (K c).a, .int .i64 (X c).k, .int .i64 (X c).n, .string (X c).s, .int .i64 (X c).a] := by
  simp [pairCells, List.range_succ]
theorem pairCells_len (K X : Nat → V) (c : Nat) : (pairCells K X c).length = c * 8 := by
  induction c with
  | zero => rfl
  | succ c ih => rw [pairCells_succ, List.length_append, ih]; simp; omega
theorem pairCells_at (K X : Nat → V) (c j i : Nat) (hj : j < c) (hi : i < 8) : (pairCells K X c)[j * 8 + i]? = [Value.int .i64 (K j).k, .int .i64 (K j).n, .string (K j).s, .int .i64 (K j).a, .int .i64 (X j).k, .int .i64 (X j).n, .string (X j).s, .int .i64 (X j).a][i]? := by
  induction c with
  | zero => omega
  | succ c ih =>
    rw [pairCells_succ]
    by_cases e : j = c
    · subst e
      rw [List.getElem?_append_right (by rw [pairCells_len]; omega), pairCells_len, show j * 8 + i - j * 8 = i by omega]
    · rw [List.getElem?_append_left (by rw [pairCells_len]; omega)]
      exact ih (by omega)
theorem pairCells_congr {K X K' X' : Nat → V} {c : Nat} (h : ∀ j, j < c → K j = K' j ∧ X j = X' j) : pairCells K X c = pairCells K' X' c := by
  induction c with
  | zero => rfl
  | succ c ih => rw [pairCells_succ, pairCells_succ, ih (fun j hj => h j (by omega)), (h c (by omega)).1, (h c (by omega)).2]

theorem owns_pairs {w : World} {base L : Nat} {v : Value} {K X : Nat → V} (h : w.ownsRow base 39 8 v L (pairCells K X L)) : v = .slice (slA v) L (slC v) ∧ PairsAt w (slA v) L (slB v) 0 K X := by
  have hform : v = .slice (slA v) L (slC v) := by
    obtain ⟨oa, oc, rfl, _⟩ := owns_form h
    rfl
  refine ⟨hform, ?_⟩
  have top : ∀ j i, j < L → i < 8 → ∃ g cap, v = .slice (some ⟨g, 0, none⟩) L cap ∧ w.cell? ⟨g, j * 8 + i, none⟩ = [Value.int .i64 (K j).k, .int .i64 (K j).n, .string (K j).s, .int .i64 (K j).a, .int .i64 (X j).k, .int .i64 (X j).n, .string (X j).s, .int .i64 (X j).a][i]? := by
    intro j i hj hi
    have e := pairCells_at K X L j i hj hi
    obtain ⟨y, hy⟩ : ∃ y, [Value.int .i64 (K j).k, .int .i64 (K j).n, .string (K j).s, .int .i64 (K j).a, .int .i64 (X j).k, .int .i64 (X j).n, .string (X j).s, .int .i64 (X j).a][i]? = some y := ⟨_, List.getElem?_eq_getElem (by simpa using hi)⟩
    rw [hy] at e ⊢
    exact owns_cell h e
  have cell : ∀ j i, j < L → i < 8 → w.cell? ⟨slB v, j * 8 + i, none⟩ = [Value.int .i64 (K j).k, .int .i64 (K j).n, .string (K j).s, .int .i64 (K j).a, .int .i64 (X j).k, .int .i64 (X j).n, .string (X j).s, .int .i64 (X j).a][i]? := by
    intro j i hj hi
    obtain ⟨g, cap, rfl, hc⟩ := top j i hj hi
    exact hc
  refine ⟨fun h0 => ?_, fun j hj => ?_, fun j hj => ?_⟩
  · obtain ⟨g, cap, rfl, _⟩ := top 0 0 h0 (by omega)
    rfl
  · rw [Nat.zero_add]
    exact ⟨cell j 0 hj (by omega), cell j 1 hj (by omega), cell j 2 hj (by omega), cell j 3 hj (by omega)⟩
  · rw [Nat.zero_add]
    exact ⟨cell j 4 hj (by omega), cell j 5 hj (by omega), cell j 6 hj (by omega), cell j 7 hj (by omega)⟩

structure OTab (w : World) (base : Nat) (tv : Value) (i : Nat) (PV : Nat → Value) (L : Nat → Nat) (K X : Nat → Nat → V) : Prop where
  own : w.ownsRow base 37 1 tv i ((List.range i).map PV)
  rows : ∀ j, j < i → w.ownsRow base 39 8 (PV j) (L j) (pairCells (K j) (X j) (L j))
  dis : ∀ j k, j < k → k < i → ∀ g, (PV j).ownBlock = some g → (PV k).ownBlock ≠ some g

theorem OTab.nil (w : World) (base : Nat) (PV : Nat → Value) (L : Nat → Nat) (K X : Nat → Nat → V) : OTab w base (.slice none 0 0) 0 PV L K X := ⟨World.ownsRow_nil _ _ _ _, fun _ hj => absurd hj (Nat.not_lt_zero _), fun _ _ _ hk => absurd hk (Nat.not_lt_zero _)⟩
theorem OTab.only {w w' : World} {base : Nat} {tv : Value} {i : Nat} {PV : Nat → Value} {L : Nat → Nat} {K X : Nat → Nat → V} {P : Nat → Prop} (h : OTab w base tv i PV L K X) (ho : Only P w w') (hP : ∀ k, base ≤ k → ¬ P k) : OTab w' base tv i PV L K X :=
  ⟨ho.owns h.own (fun g hg _ => hP g hg), fun j hj => ho.owns (h.rows j hj) (fun g hg _ => hP g hg), h.dis⟩
theorem OTab.below {w w' : World} {base : Nat} {tv : Value} {i : Nat} {PV : Nat → Value} {L : Nat → Nat} {K X : Nat → Nat → V} (h : OTab w base tv i PV L K X) (hb : Below w.heap.size w w') : OTab w' base tv i PV L K X := h.only (Only.below (P := fun _ => False) hb) (fun _ _ h => h)

theorem OTab.onlyB {w w' : World} {base : Nat} {tv : Value} {i : Nat} {PV : Nat → Value} {L : Nat → Nat} {K X : Nat → Nat → V} {P : Nat → Prop} (h : OTab w base tv i PV L K X) (ho : Only P w w') (h1 : ∀ g, tv.ownBlock = some g → ¬ P g) (h2 : ∀ j, j < i → ∀ g, (PV j).ownBlock = some g → ¬ P g) : OTab w' base tv i PV L K X :=
  ⟨ho.ownsB h.own h1, fun j hj => ho.ownsB (h.rows j hj) (h2 j hj), h.dis⟩
theorem OTab.more {w w1 : World} {base : Nat} {tv tv' pv : Value} {i : Nat} {PV : Nat → Value} {L : Nat → Nat} {K X : Nat → Nat → V} (h : OTab w base tv i PV L K X) {l : Nat} {k x : Nat → V} (hp : w.ownsRow base 39 8 pv l (pairCells k x l)) (hd : ∀ j, j < i → ∀ g, (PV j).ownBlock = some g → pv.ownBlock ≠ some g) (o : Obj) (hbz : base ≤ w.heap.size)
    (ho : w1.ownsRow base 37 1 tv' (i + 1) (((List.range i).map PV) ++ [pv])) (hg : (w.alloc o).grownBy w1 tv.ownBlock) :
    OTab w1 base tv' (i + 1) (fun j => if j = i then pv else PV j) (fun j => if j = i then l else L j) (fun j => if j = i then k else K j) (fun j => if j = i then x else X j) ∧ Below base w w1 := by
  have keep : ∀ v n xs, w.ownsRow base 39 8 v n xs → w1.ownsRow base 39 8 v n xs := fun v n xs hr => by
    refine ⟨hr.1, ?_⟩
    rcases hr.2 with h2 | ⟨g, cap, cur, hv, hge, hh, r⟩
    · exact Or.inl h2
    · refine Or.inr ⟨g, cap, cur, hv, hge, ?_, r⟩
      rw [hg.block g (by have := lt_of_block hh; simp; omega) (fun e => ?_), Below.heap_alloc _ _ _ (lt_of_block hh)]
      · exact hh
      · obtain ⟨_, cur', h'⟩ := owns_type h.own e.symm
        rw [hh] at h'
        cases h'
  refine ⟨⟨?_, fun j hj => ?_, fun a b hab hb g hga => ?_⟩, ?_⟩
  · have e : ((List.range (i + 1)).map fun j => if j = i then pv else PV j) = ((List.range i).map PV) ++ [pv] := by
      rw [List.range_succ, List.map_append]
      congr 1
      · apply List.map_congr_left
        intro j hj
        have := List.mem_range.1 hj
        simp [show ¬ j = i by omega]
      · simp
    rw [e]; exact ho
  · by_cases e : j = i
    · subst e; simp only [if_true]; exact keep _ _ _ hp
    · simp only [e, if_false]; exact keep _ _ _ (h.rows j (by omega))
  · simp only [show ¬ a = i by omega, if_false] at hga
    by_cases e : b = i
    · subst e; simp only [if_true]; exact hd a (by omega) g hga
    · simp only [e, if_false]; exact h.dis a b hab (by omega) g hga
  · refine ⟨hg.os, hg.tape, hg.output, by have := hg.size; simp at this; omega, fun k hk => ?_⟩
    rw [hg.block k (by simp; omega) (fun e => ?_), Below.heap_alloc _ _ _ (by omega)]
    have := (owns_type h.own e.symm).1
    omega

theorem OTab.congr {w : World} {base : Nat} {tv : Value} {i : Nat} {PV : Nat → Value} {L L' : Nat → Nat} {K X K' X' : Nat → Nat → V} (h : OTab w base tv i PV L K X) (hL : ∀ j, j < i → L j = L' j) (hK : ∀ j, j < i → ∀ c, c < L' j → K j c = K' j c ∧ X j c = X' j c) : OTab w base tv i PV L' K' X' := by
  refine ⟨h.own, fun j hj => ?_, h.dis⟩
  have := h.rows j hj
  rw [hL j hj, pairCells_congr (fun c hc => hK j hj c hc)] at this
  exact this

theorem OTab.tabs {w : World} {base : Nat} {tv : Value} {i : Nat} {PV : Nat → Value} {L : Nat → Nat} {K X : Nat → Nat → V} (h : OTab w base tv i PV L K X) : tv = .slice (slA tv) i (slC tv) ∧ TabsAt w (slA tv) i (slB tv) 0 (fun j => slA (PV j)) L (fun j => slC (PV j)) (fun j => slB (PV j)) (fun _ => 0) K X := by
  refine ⟨by obtain ⟨oa, oc, rfl, _⟩ := owns_form h.own; rfl, fun h0 => ?_, fun r hr => ?_, fun r hr => (owns_pairs (h.rows r hr)).2⟩
  · obtain ⟨g, cap, rfl, _⟩ := owns_cell h.own (k := 0) (y := PV 0) (by simp [h0])
    rfl
  · obtain ⟨g, cap, rfl, hc⟩ := owns_cell h.own (k := r) (y := PV r) (by simp [hr])
    rw [Nat.zero_add]
    rw [← (owns_pairs (h.rows r hr)).1]
    exact hc

end Go.Proofs.YtgflalfiopnmnaaGreatDoor
