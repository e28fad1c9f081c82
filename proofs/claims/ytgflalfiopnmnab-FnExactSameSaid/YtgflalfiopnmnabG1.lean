import Derived.Test.YtgflalfiopnmnabLkMap
import Derived.LaidEql
import Derived.Test.YtgflalfiopnmnabSmPure
import Derived.Test.YtgflalfiopnmnabCnFr
import Derived.Test.YtgflalfiopnmnabCnPure
import Derived.Test.YtgflalfiopnmnabGtSpec2
namespace Go.Proofs.Ytgflalfiopnmnab
open Go.RowKit Vl

/-- What is there at a key, by a comparison. -/
def findG {α : Type} (eqb : α → α → Bool) (v : α) : List (α × Value) → Option Value
  | [] => none
  | (k, x) :: l => if eqb v k = true then some x else findG eqb v l

/-- What the keys of a map type are. -/
structure Keyed {α : Type} (mt kt et : TypeId) (enc : α → Value) (ok : World → α → Prop) (eqb : α → α → Bool) (z : Value) : Prop where
  und : Try.prog.underlying mt = some (.map kt et)
  eq : ∀ u v w, ok w u → ok w v → (Op.equal kt (enc u) (enc v)).run Try.prog w = .ok (eqb u v) w
  chk : ∀ em v w, (Instr.checkKey em 10000 kt (enc v)).run Try.prog w = .ok () w
  now : ∃ d, Try.prog.underlying kt = some d ∧ ∀ u v, Instr.sameNow d (enc u) (enc v) = none
  zero : ∀ w, (zeroValue et).run Try.prog w = .ok z w

theorem find_g {α : Type} {mt kt et : TypeId} {enc : α → Value} {ok : World → α → Prop} {eqb : α → α → Bool} {z : Value} (hK : Keyed mt kt et enc ok eqb z) (v : α) (w : World) (hv : ok w v) : ∀ (es : List MapEntry) (l : List (α × Value)) (i : Nat), (∀ p ∈ l, ok w p.1) → es.map (fun e => (e.key, e.val)) = l.map (fun p => (enc p.1, p.2)) →
    (findG eqb v l = none → (Instr.findAsking kt (enc v) es i).run Try.prog w = .ok none w) ∧ (∀ x, findG eqb v l = some x → ∃ j, (Instr.findAsking kt (enc v) es i).run Try.prog w = .ok (some (j, x)) w)
  | [], [], i, _, _ => ⟨fun _ => rfl, fun x h => by cases h⟩
  | [], _ :: _, i, _, h => by simp at h
  | _ :: _, [], i, _, h => by simp at h
  | e :: es, (k, x) :: l, i, hl, h => by
    simp only [List.map_cons, List.cons.injEq, Prod.mk.injEq] at h
    obtain ⟨⟨h1, h2⟩, h3⟩ := h
    have ih := find_g hK v w hv es l (i + 1) (fun p hp => hl p (List.mem_cons_of_mem _ hp)) h3
    have e1 : (Instr.findAsking kt (enc v) (e :: es) i).run Try.prog w = if eqb v k = true then .ok (some (i, e.val)) w else (Instr.findAsking kt (enc v) es (i + 1)).run Try.prog w := by
      conv => lhs; unfold Instr.findAsking
      rw [Sem.run_bind, h1, hK.eq _ _ _ hv (hl (k, x) (by simp))]
      simp only [Result.andThen_ok]
      cases eqb v k <;> simp
    rw [e1]
    unfold findG
    by_cases he : eqb v k = true
    · rw [if_pos he, if_pos he, h2]
      exact ⟨fun h => (by cases h), fun y h => ⟨i, by cases h; rfl⟩⟩
    · rw [if_neg he, if_neg he]
      exact ih

theorem findKey_g {α : Type} {mt kt et : TypeId} {enc : α → Value} {ok : World → α → Prop} {eqb : α → α → Bool} {z : Value} (hK : Keyed mt kt et enc ok eqb z) (v : α) (w : World) (hv : ok w v) (es : List MapEntry) (l : List (α × Value)) (hl : ∀ p ∈ l, ok w p.1) (h : es.map (fun e => (e.key, e.val)) = l.map (fun p => (enc p.1, p.2))) :
    (findG eqb v l = none → (Instr.findKey kt (enc v) es).run Try.prog w = .ok none w) ∧ (∀ x, findG eqb v l = some x → ∃ j, (Instr.findKey kt (enc v) es).run Try.prog w = .ok (some (j, x)) w) := by
  have hf := find_g hK v w hv es l 0 hl h
  obtain ⟨d, hd, hn⟩ := hK.now
  have e1 : (Instr.findKey kt (enc v) es).run Try.prog w = (Instr.findAsking kt (enc v) es 0).run Try.prog w := by
    unfold Instr.findKey
    rw [Sem.run_bind, run_underlying hd]
    simp only [Result.andThen_ok]
    cases es with
    | nil => rfl
    | cons e es =>
      cases l with
      | nil => simp at h
      | cons p l =>
        simp only [List.map_cons, List.cons.injEq, Prod.mk.injEq] at h
        have : Instr.findNow d (enc v) (e :: es) 0 = none := by
          unfold Instr.findNow
          rw [h.1.1, hn]
        rw [this]
  rw [e1]
  exact hf

/-- A block that is a map. -/
def MapG {α : Type} (enc : α → Value) (w : World) (M : Nat) (l : List (α × Value)) : Prop := ∃ es clk, w.heap[M]? = some (.map es clk) ∧ es.toList.map (fun e => (e.key, e.val)) = l.map (fun p => (enc p.1, p.2))

theorem MapG.same {α : Type} {enc : α → Value} {w w' : World} {M : Nat} {l : List (α × Value)} (h : MapG enc w M l) (e : w'.heap[M]? = w.heap[M]?) : MapG enc w' M l := by
  obtain ⟨es, clk, h1, h2⟩ := h
  exact ⟨es, clk, e.trans h1, h2⟩
theorem MapG.lt {α : Type} {enc : α → Value} {w : World} {M : Nat} {l : List (α × Value)} (h : MapG enc w M l) : M < w.heap.size := by
  obtain ⟨es, clk, h1, _⟩ := h
  exact blk_lt h1
theorem MapG.len {α : Type} {enc : α → Value} {w : World} {M : Nat} {l : List (α × Value)} (h : MapG enc w M l) : ∃ es clk, w.heap[M]? = some (.map es clk) ∧ es.size = l.length := by
  obtain ⟨es, clk, h1, h2⟩ := h
  refine ⟨es, clk, h1, ?_⟩
  have := congrArg List.length h2
  simpa using this

theorem MapG.lookup {α : Type} {mt kt et : TypeId} {enc : α → Value} {ok : World → α → Prop} {eqb : α → α → Bool} {z : Value} (hK : Keyed mt kt et enc ok eqb z) {w : World} {M : Nat} {l : List (α × Value)} (h : MapG enc w M l) (v : α) (hv : ok w v) (hok : ∀ p ∈ l, ok w p.1) :
    (Instr.lookup mt (.map (some M)) (enc v) true).run Try.prog w = .ok (.tuple #[(findG eqb v l).getD z, .bool (findG eqb v l).isSome]) w ∧
    (Instr.lookup mt (.map (some M)) (enc v) false).run Try.prog w = .ok ((findG eqb v l).getD z) w := by
  obtain ⟨es, clk, hb, hl⟩ := h
  have hk := findKey_g hK v w hv es.toList l hok hl
  cases hf : findG eqb v l with
  | none =>
    have h1 := hk.1 hf
    constructor <;> simp [Instr.lookup, run_underlying hK.und, MapKept.run_getObj_map hb, hK.chk, h1, hK.zero, Result.andThen]
  | some x =>
    obtain ⟨j, h1⟩ := hk.2 x hf
    constructor <;> simp [Instr.lookup, run_underlying hK.und, MapKept.run_getObj_map hb, hK.chk, h1, Result.andThen]

theorem MapG.update {α : Type} {mt kt et : TypeId} {enc : α → Value} {ok : World → α → Prop} {eqb : α → α → Bool} {z : Value} (hK : Keyed mt kt et enc ok eqb z) {w : World} {M : Nat} {l : List (α × Value)} (h : MapG enc w M l) (v : α) (x : Value) (hv : ok w v) (hok : ∀ p ∈ l, ok w p.1) (hf : findG eqb v l = none) :
    ∃ w', (Instr.mapUpdate mt (.map (some M)) (enc v) x).run Try.prog w = .ok () w' ∧ MapG enc w' M (l ++ [(v, x)]) ∧ Only (fun k => k = M) w w' ∧ w'.heap.size = w.heap.size := by
  obtain ⟨es, clk, hb, hl⟩ := h
  have hk := (findKey_g hK v w hv es.toList l hok hl).1 hf
  refine ⟨{ w with heap := w.heap.setIfInBounds M (.map (es.push { key := enc v, val := x, born := clk }) (clk + 1)) }, ?_, ?_, ?_, by simp⟩
  · simp [Instr.mapUpdate, run_underlying hK.und, MapKept.run_getObj_map hb, hK.chk, hk, Result.andThen, MapKept.run_setObj_map _ hb]
  · refine ⟨_, _, by rw [Array.getElem?_setIfInBounds_self_of_lt (blk_lt hb)], ?_⟩
    simp [hl]
  · refine ⟨rfl, rfl, rfl, by simp, fun k _ hk => ?_⟩
    show (w.heap.setIfInBounds M _)[k]? = w.heap[k]?
    rw [Array.getElem?_setIfInBounds_ne (fun e => hk e.symm)]

/-- Pointers to blocks as keys. -/
abbrev ptr (b : Nat) : Value := .pointer (some ⟨b, 0, none⟩)
/-- A block of cells. -/
def IsB (w : World) (b : Nat) : Prop := ∃ ca ta, w.heap[b]? = some (.cells ca ta (0, 0))
theorem size_table : ∃ j, Try.prog.info? 95 = some j ∧ j.size ≠ 0 := by
  have h : (Try.prog.info? 95).map (fun i => i.size) = some 3 := by kernel_rfl
  cases hi : Try.prog.info? 95 with
  | none => rw [hi] at h; cases h
  | some j => rw [hi] at h; exact ⟨j, rfl, by simp at h; omega⟩
theorem eq_ptr (u v : Nat) (w : World) (hu : IsB w u) (hv : IsB w v) (d : Nat) : (Op.equalIn (d + 1) 92 (ptr u) (ptr v)).run Try.prog w = .ok (u == v) w := by
  obtain ⟨j, hj, hs⟩ := size_table
  obtain ⟨ca, ta, ha⟩ := hu
  obtain ⟨cb, tb, hb⟩ := hv
  by_cases h : u = v
  · subst h
    simp [Op.equalIn, run_underlying Try.underlying92, sizeOf, typeInfo, hj, run_sameAddr_same]
  · have hne : (⟨u, 0, none⟩ : Addr) ≠ ⟨v, 0, none⟩ := fun e => h (by cases e; rfl)
    simp [Op.equalIn, run_underlying Try.underlying92, sizeOf, typeInfo, hj, hs, run_sameAddr_other w hne ha hb, h]
theorem findG_mem (f : Nat → Nat) (hf : Nat → Value) (r : Nat) : ∀ (S : List Nat), (∀ i ∈ S, f i = f r → i = r) → (findG (fun a b => a == b) (f r) (S.map fun i => (f i, hf i))).isSome = decide (r ∈ S)
  | [], _ => rfl
  | i :: S, h => by
    simp only [List.map_cons, findG]
    by_cases e : f r = f i
    · rw [if_pos (by simpa using e)]
      have := h i (by simp) e.symm
      subst this
      simp
    · rw [if_neg (by simpa using e), findG_mem f hf r S (fun j hj => h j (by simp [hj]))]
      have : ¬ r = i := fun x => e (by rw [x])
      simp [this]

theorem findG_const {α : Type} (eqb : α → α → Bool) (v : α) (T : Nat → α) (c : Value) : ∀ S : List Nat, (findG eqb v (S.map fun j => (T j, c))).getD c = c
  | [] => rfl
  | i :: S => by
    simp only [List.map_cons, findG]
    split
    · rfl
    · exact findG_const eqb v T c S

end Go.Proofs.Ytgflalfiopnmnab

namespace Go.Proofs.Ytgflalfiopnmnab
open Go.RowKit Vl

/-- A value with the number that its table bears. -/
def atV (at_ : Nat → Int) (v : V) : V := if v.k = 4 then ⟨v.k, v.n, v.s, at_ v.a.toNat⟩ else v

/-- What a held value says of itself. -/
theorem as_at {n : Nat} {v : V} (hv : isV n v = true) (T : Nat → Nat) (at_ : Nat → Int) :
    ∃ (t : TypeId) (y : Value) (F : Nat), ifv T v = .iface t y ∧ (∀ w f, (method (f + 3) t y "loop.example/cloth/impl.asVal").run Try.prog w = .ok (F, y) w) ∧ (∀ args w, (callFunc F args).run Try.prog w = .ok (.enter F args) w) ∧
      ∀ w, (∀ j, j < n → w.cell? ⟨T j, 0, none⟩ = some (.int .i64 (at_ j))) → Calls Try.prog F #[y] w fun e w' => e = .returned (vAgg (atV at_ v)) ∧ Below w.heap.size w w' := by
  obtain ⟨k, m, s, a⟩ := v
  by_cases k0 : k = 0
  · subst k0
    simp [isV] at hv
    obtain ⟨rfl, hs, rfl⟩ := hv
    obtain rfl := bytes_empty hs
    exact ⟨_, _, _, rfl, meth_0, Try.call152, fun w _ => asNil_any w⟩
  by_cases k1 : k = 1
  · subst k1
    simp [isV] at hv
    obtain ⟨hm, hs, rfl⟩ := hv
    obtain rfl := bytes_empty hs
    refine ⟨_, _, _, rfl, meth_1 _, Try.call149, fun w _ => (asBool_any _ w).mono ?_⟩
    rintro e w' ⟨rfl, h⟩
    refine ⟨?_, h⟩
    rcases hm with rfl | rfl <;> rfl
  by_cases k2 : k = 2
  · subst k2
    simp [isV] at hv
    obtain ⟨hs, rfl⟩ := hv
    obtain rfl := bytes_empty hs
    exact ⟨_, _, _, rfl, meth_2 _, Try.call150, fun w _ => asInt_any m w⟩
  by_cases k3 : k = 3
  · subst k3
    simp [isV] at hv
    obtain ⟨rfl, rfl, _⟩ := hv
    exact ⟨_, _, _, rfl, meth_3 _, Try.call151, fun w _ => asText_any s w⟩
  by_cases k4 : k = 4
  · subst k4
    simp [isV] at hv
    obtain ⟨rfl, hs, ha0, ha1⟩ := hv
    obtain rfl := bytes_empty hs
    refine ⟨_, _, _, rfl, meth_4 _, Try.call148, fun w hT => asTab_any _ (at_ a.toNat) w ?_⟩
    exact hT a.toNat (by omega)
  · simp [isV, k0, k1, k2, k3, k4] at hv

/-- Values that are no tables, asked whether they are. -/
theorem assert_no {n : Nat} {v : V} (hv : isV n v = true) (h4 : v.k ≠ 4) (T : Nat → Nat) (w : World) : (Instr.typeAssert (ifv T v) 67 92 true).run Try.prog w = .ok (.tuple #[.pointer none, .bool false]) w := by
  obtain ⟨q, m, s, a⟩ := v
  by_cases k0 : q = 0
  · subst k0; kernel_rfl
  by_cases k1 : q = 1
  · subst k1; kernel_rfl
  by_cases k2 : q = 2
  · subst k2; kernel_rfl
  by_cases k3 : q = 3
  · subst k3; kernel_rfl
  · have k4 : ¬ q = 4 := h4
    simp [isV, k0, k1, k2, k3, k4] at hv
theorem ifv_tab {v : V} (h4 : v.k = 4) (T : Nat → Nat) : ifv T v = .iface 92 (.pointer (some ⟨T v.a.toNat, 0, none⟩)) := by
  unfold ifv
  rw [if_neg (by omega), if_neg (by omega), if_neg (by omega), if_neg (by omega)]
theorem assert_yes (b : Nat) (w : World) : (Instr.typeAssert (.iface 92 (.pointer (some ⟨b, 0, none⟩))) 67 92 true).run Try.prog w = .ok (.tuple #[.pointer (some ⟨b, 0, none⟩), .bool true]) w := by kernel_rfl

/-- Tables in memory: what each holds, the number that it bears, its keys in their order. -/
structure Tbs (w : World) (n : Nat) (T M : Nat → Nat) (at_ : Nat → Int) (L : Nat → Nat) (K X : Nat → Nat → V) : Prop where
  tab : ∀ j, j < n → ∃ ord, TabB w (T j) (M j) (at_ j) ord ∧ w.ownsRow 0 29 4 ord (L j) (keyCells (keys (K j) (L j)))
  map : ∀ j, j < n → ∃ l, MapIs w (M j) l ∧ ∀ c, c < L j → findV (K j c) l = some (ifv T (X j c))
  inj : ∀ i j, i < n → j < n → T i = T j → i = j
  gone : ∀ j, j < n → ∀ l, MapIs w (M j) l → ∀ v, (∀ c, c < L j → K j c ≠ v) → findV v l = none

theorem vAgg_inj {u v : V} (h : vAgg u = vAgg v) : u = v := by
  obtain ⟨k, n, s, a⟩ := u
  obtain ⟨k', n', s', a'⟩ := v
  simpa [vAgg] using h
theorem map_inj : ∀ (l l' : List (V × Value)), l.map (fun p => (vAgg p.1, p.2)) = l'.map (fun p => (vAgg p.1, p.2)) → l = l'
  | [], [], _ => rfl
  | [], _ :: _, h => by simp at h
  | _ :: _, [], h => by simp at h
  | (u, x) :: l, (v, y) :: l', h => by
    simp only [List.map_cons, List.cons.injEq, Prod.mk.injEq] at h
    obtain ⟨⟨h1, h2⟩, h3⟩ := h
    rw [vAgg_inj h1, h2, map_inj l l' h3]
theorem MapIs.uniq {w : World} {M : Nat} {l l' : List (V × Value)} (h : MapIs w M l) (h' : MapIs w M l') : l = l' := by
  obtain ⟨es, clk, a, b⟩ := h
  obtain ⟨es', clk', a', b'⟩ := h'
  rw [a] at a'
  cases a'
  exact map_inj l l' (b.symm.trans b')
theorem Tbs.noneB {w w' : World} {n : Nat} {T M : Nat → Nat} {at_ : Nat → Int} {L : Nat → Nat} {K X : Nat → Nat → V} (h : Tbs w n T M at_ L K X) (hM : ∀ j, j < n → w'.heap[M j]? = w.heap[M j]?) : ∀ j, j < n → ∀ l, MapIs w' (M j) l → ∀ v, (∀ c, c < L j → K j c ≠ v) → findV v l = none :=
  fun j hj l hl v hv => h.gone j hj l (hl.same (hM j hj).symm) v hv

theorem Tbs.lt {w : World} {n : Nat} {T M : Nat → Nat} {at_ : Nat → Int} {L : Nat → Nat} {K X : Nat → Nat → V} (h : Tbs w n T M at_ L K X) {j : Nat} (hj : j < n) : T j < w.heap.size := by
  obtain ⟨ord, h1, _⟩ := h.tab j hj
  exact blk_lt h1
theorem Tbs.only {w w' : World} {n : Nat} {T M : Nat → Nat} {at_ : Nat → Int} {L : Nat → Nat} {K X : Nat → Nat → V} {P : Nat → Prop} (h : Tbs w n T M at_ L K X) (ho : Only P w w') (hP : ∀ k, k < w.heap.size → ¬ P k) : Tbs w' n T M at_ L K X := by
  refine ⟨fun j hj => ?_, fun j hj => ?_, h.inj, h.noneB (fun j hj => ?_)⟩
  · obtain ⟨ord, h1, h2⟩ := h.tab j hj
    exact ⟨ord, (ho.block _ (blk_lt h1) (hP _ (blk_lt h1))).trans h1, ho.owns h2 (fun g _ hg => hP g hg)⟩
  · obtain ⟨l, h1, h2⟩ := h.map j hj
    exact ⟨l, h1.same (ho.block _ h1.lt (hP _ h1.lt)), h2⟩
  · obtain ⟨l, h1, _⟩ := h.map j hj
    exact ho.block _ h1.lt (hP _ h1.lt)
theorem Tbs.below {w w' : World} {n : Nat} {T M : Nat → Nat} {at_ : Nat → Int} {L : Nat → Nat} {K X : Nat → Nat → V} (h : Tbs w n T M at_ L K X) (hb : Below w.heap.size w w') : Tbs w' n T M at_ L K X :=
  h.only (Only.below (P := fun _ => False) hb) (fun _ _ h => h)
theorem Tbs.at0 {w : World} {n : Nat} {T M : Nat → Nat} {at_ : Nat → Int} {L : Nat → Nat} {K X : Nat → Nat → V} (h : Tbs w n T M at_ L K X) : ∀ j, j < n → w.cell? ⟨T j, 0, none⟩ = some (.int .i64 (at_ j)) := fun j hj => by
  obtain ⟨ord, h1, _⟩ := h.tab j hj
  exact h1.cells.1

theorem Tbs.only' {w w' : World} {n : Nat} {T M : Nat → Nat} {at_ : Nat → Int} {L : Nat → Nat} {K X : Nat → Nat → V} {ob t : Nat} {cs : Array Value} {z : Nat × Nat} (h : Tbs w n T M at_ L K X) (ho : Only (fun k => k = ob) w w') (hob : w.heap[ob]? = some (.cells cs t z)) (h1 : t ≠ 95) (h2 : t ≠ 29) : Tbs w' n T M at_ L K X := by
  refine ⟨fun j hj => ?_, fun j hj => ?_, h.inj, h.noneB (fun j hj => ?_)⟩
  rotate_left 2
  · obtain ⟨l, a1, _⟩ := h.map j hj
    refine ho.block _ a1.lt (fun e => ?_)
    obtain ⟨es, clk, hb, _⟩ := a1
    rw [e, hob] at hb
    cases hb
  · obtain ⟨ord, a1, a2⟩ := h.tab j hj
    refine ⟨ord, (ho.block _ (blk_lt a1) (fun e => ?_)).trans a1, ho.ownsB a2 (fun g hg e => ?_)⟩
    · unfold TabB at a1
      rw [e, hob] at a1
      cases a1
      exact h1 rfl
    · obtain ⟨_, cur, hc⟩ := owns_type a2 hg
      rw [e, hob] at hc
      cases hc
      exact h2 rfl
  · obtain ⟨l, a1, a2⟩ := h.map j hj
    refine ⟨l, a1.same (ho.block _ a1.lt (fun e => ?_)), a2⟩
    obtain ⟨es, clk, hb, _⟩ := a1
    rw [e, hob] at hb
    cases hb

/-- A number is written. -/
theorem Tbs.setAt {w : World} {n : Nat} {T M : Nat → Nat} {at_ : Nat → Int} {L : Nat → Nat} {K X : Nat → Nat → V} (h : Tbs w n T M at_ L K X) {r : Nat} (hr : r < n) (i : Int) : Tbs (w.setCell ⟨T r, 0, none⟩ (.int .i64 i)) n T M (fun j => if j = r then i else at_ j) L K X := by
  obtain ⟨ordr, hr1, _⟩ := h.tab r hr
  have hne : ∀ k, k ≠ T r → (w.setCell ⟨T r, 0, none⟩ (.int .i64 i)).heap[k]? = w.heap[k]? := fun k hk => Below.heap_setCell _ _ _ _ hk
  refine ⟨fun j hj => ?_, fun j hj => ?_, h.inj, h.noneB (fun j hj => ?_)⟩
  rotate_left 2
  · obtain ⟨l, h1, _⟩ := h.map j hj
    refine hne _ (fun e => ?_)
    obtain ⟨es, clk, hb, _⟩ := h1
    unfold TabB at hr1
    rw [e, hr1] at hb
    cases hb
  · obtain ⟨ord, h1, h2⟩ := h.tab j hj
    refine ⟨ord, ?_, ?_⟩
    · by_cases e : j = r
      · subst e
        rw [if_pos rfl]
        unfold TabB at h1 ⊢
        simp [World.setCell, Array.getElem?_modify, h1]
      · rw [if_neg e]
        exact (hne _ (fun x => e (h.inj j r hj hr x))).trans h1
    · refine ⟨h2.1, ?_⟩
      rcases h2.2 with h3 | ⟨g, cap, cur, hv, hge, hh, rest⟩
      · exact Or.inl h3
      · refine Or.inr ⟨g, cap, cur, hv, hge, ?_, rest⟩
        rw [hne g (fun e => ?_)]
        · exact hh
        · subst e
          unfold TabB at hr1
          rw [hr1] at hh
          cases hh
  · obtain ⟨l, h1, h2⟩ := h.map j hj
    refine ⟨l, h1.same (hne _ (fun e => ?_)), h2⟩
    obtain ⟨es, clk, hb, _⟩ := h1
    unfold TabB at hr1
    rw [e, hr1] at hb
    cases hb

/-- What 'link' leaves. -/
theorem Half.tbs {w : World} {b n : Nat} {u : V} {base L : Nat → Nat} {K X : Nat → Nat → V} (h : Half w b n n base L K X) (hg : OkG n u L K X) : Tbs w n (tT b) (tM b) (fun j => (j : Nat)) L K X := by
  refine ⟨fun j hj => ?_, fun j hj => ?_, fun i j _ _ e => by unfold tT at e; omega, fun j hj l hl v hv => ?_⟩
  rotate_left 2
  · rw [hl.uniq (h.full j hj).1.map, mp_none]
    intro c hc
    cases e : eqV (K j c) v with
    | false => rfl
    | true => exact absurd (eqV_iff.1 e) (hv c hc)
  · obtain ⟨ord, h1, h2⟩ := (h.full j hj).1.tab
    rw [keys_len] at h2
    exact ⟨ord, h1, owns_mono h2 (Nat.zero_le _)⟩
  · refine ⟨_, (h.full j hj).1.map, fun c hc => ?_⟩
    unfold mp
    rw [find_js]
    have : (List.range (L j)).find? (fun i => eqV (K j i) (K j c)) = some c := by
      rw [List.find?_range_eq_some]
      refine ⟨?_, List.mem_range.2 hc, fun i hi => by rw [((hg.all j hj).all c hc).once i hi]; rfl⟩
      simp [eqV]
    rw [this]
    rfl

/-- Keys that are owned, as they are read. -/
theorem owns_keys {w : World} {base L : Nat} {v : Value} {K : Nat → V} (h : w.ownsRow base 29 4 v L (keyCells (keys K L))) : v = .slice (slA v) L (slC v) ∧ ValsAt w (slA v) L (slB v) 0 K := by
  have hform : v = .slice (slA v) L (slC v) := by
    obtain ⟨oa, oc, rfl, _⟩ := owns_form h
    rfl
  refine ⟨hform, ?_⟩
  have kat : ∀ (L j i : Nat), j < L → i < 4 → (keyCells (keys K L))[j * 4 + i]? = [Value.int .i64 (K j).k, .int .i64 (K j).n, .string (K j).s, .int .i64 (K j).a][i]? := by
    intro L
    have klen : ∀ L, (keyCells (keys K L)).length = L * 4 := fun L => by
      induction L with
      | zero => rfl
      | succ L ih => rw [keys_succ]; simp only [keyCells, List.flatMap_append, List.length_append] at ih ⊢; rw [ih]; simp; omega
    induction L with
    | zero => intro j i hj; omega
    | succ L ih =>
      intro j i hj hi
      rw [keys_succ]
      have e : keyCells (keys K L ++ [K L]) = keyCells (keys K L) ++ [.int .i64 (K L).k, .int .i64 (K L).n, .string (K L).s, .int .i64 (K L).a] := by simp [keyCells]
      rw [e]
      by_cases e : j = L
      · subst e
        rw [List.getElem?_append_right (by rw [klen]; omega), klen, show j * 4 + i - j * 4 = i by omega]
      · rw [List.getElem?_append_left (by rw [klen]; omega)]
        exact ih j i (by omega) hi
  have top : ∀ j i, j < L → i < 4 → ∃ g cap, v = .slice (some ⟨g, 0, none⟩) L cap ∧ w.cell? ⟨g, j * 4 + i, none⟩ = [Value.int .i64 (K j).k, .int .i64 (K j).n, .string (K j).s, .int .i64 (K j).a][i]? := by
    intro j i hj hi
    have e := kat L j i hj hi
    obtain ⟨y, hy⟩ : ∃ y, [Value.int .i64 (K j).k, .int .i64 (K j).n, .string (K j).s, .int .i64 (K j).a][i]? = some y := ⟨_, List.getElem?_eq_getElem (by simpa using hi)⟩
    rw [hy] at e ⊢
    exact owns_cell h e
  have cell : ∀ j i, j < L → i < 4 → w.cell? ⟨slB v, j * 4 + i, none⟩ = [Value.int .i64 (K j).k, .int .i64 (K j).n, .string (K j).s, .int .i64 (K j).a][i]? := by
    intro j i hj hi
    obtain ⟨g, cap, rfl, hc⟩ := top j i hj hi
    exact hc
  refine ⟨fun h0 => ?_, fun j hj => ?_⟩
  · obtain ⟨g, cap, rfl, _⟩ := top 0 0 h0 (by omega)
    rfl
  · rw [Nat.zero_add]
    exact ⟨cell j 0 hj (by omega), cell j 1 hj (by omega), cell j 2 hj (by omega), cell j 3 hj (by omega)⟩

theorem share2 {F : Value → World → Prop} {G : Value → World → Prop} {P : Prop} (h : Hid (∀ v w, F v w → G v w) → P) (g : ∀ v w, F v w → G v w) : P := h g

end Go.Proofs.Ytgflalfiopnmnab

namespace Go.Proofs.Ytgflalfiopnmnab
open Go.RowKit Vl

def natCells (S : List Nat) : List Value := S.map fun i => .int .i64 (i : Nat)
theorem natCells_snoc (S : List Nat) (r : Nat) : natCells (S ++ [r]) = natCells S ++ [.int .i64 (r : Nat)] := by simp [natCells]

/-- The numberer of 'l2canon': S marked, T in the order. -/
structure SpW (w0 w : World) (WB WH base : Nat) (u : V) (ta : Option Addr) (n cp : Nat) (ord : Value) (S T : List Nat) : Prop where
  blk : w.heap[WB]? = some (.cells #[.int .i64 u.k, .int .i64 u.n, .string u.s, .int .i64 u.a, .slice ta n cp, .slice (some ⟨WH, 0, none⟩) n n, ord] 142 (0, 0))
  row : w.rowIs WH 3 n (fun i => .int .i64 (whereIs S i))
  own : w.ownsRow base 3 1 ord T.length (natCells T)
  bel : Below w0.heap.size w0 w

theorem SpW.below {w0 w w' : World} {WB WH base : Nat} {u : V} {ta : Option Addr} {n cp : Nat} {ord : Value} {S T : List Nat} (h : SpW w0 w WB WH base u ta n cp ord S T) (hb : Below w.heap.size w w') : SpW w0 w' WB WH base u ta n cp ord S T :=
  ⟨blkB h.blk hb, h.row.of_block (hb.block _ h.row.lt), (Only.below (P := fun _ => False) hb).owns h.own (fun _ _ _ h => h), h.bel.trans (hb.mono h.bel.size)⟩

theorem cells7 {w : World} {B : Nat} {a b c d e f g : Value} {t : TypeId} (H : w.heap[B]? = some (.cells #[a, b, c, d, e, f, g] t (0, 0))) :
    w.cell? ⟨B, 4, none⟩ = some e ∧ w.cell? ⟨B, 5, none⟩ = some f ∧ w.cell? ⟨B, 6, none⟩ = some g ∧ ∀ i, w.frozen? ⟨B, i, none⟩ = false := by
  refine ⟨?_, ?_, ?_, fun i => ?_⟩ <;> simp [World.cell?, World.frozen?, H]

/-- A table is marked. -/
theorem SpW.mark {w0 w : World} {WB WH base : Nat} {u : V} {ta : Option Addr} {n cp : Nat} {ord : Value} {S : List Nat} (h : SpW w0 w WB WH base u ta n cp ord S S) (hB : SpB w0 WB WH base) {r : Nat} (hr : r ∉ S) :
    SpW w0 (w.setCell ⟨WH, r, none⟩ (.int .i64 (S.length : Nat))) WB WH base u ta n cp ord (S ++ [r]) S ∧ FrV WB WH ord ord w (w.setCell ⟨WH, r, none⟩ (.int .i64 (S.length : Nat))) := by
  refine ⟨⟨(Below.heap_setCell _ _ _ _ hB.ne).trans h.blk, ?_, ?_, h.bel.setCell hB.wh _⟩, ⟨(Only.refl _ _).set (Or.inr (Or.inl rfl)) _, fun _ _ h => h⟩⟩
  · refine (h.row.set r _).congr (fun i _ => ?_)
    rw [whereIs_add hr]
    by_cases e : i = r
    · rw [if_pos e, if_pos e]
    · rw [if_neg e, if_neg e]
  · refine ownsRow_setCell_other h.own (fun e => ?_) _
    obtain ⟨_, _, _, hk⟩ := owns_form h.own
    have := (hk _ e).1
    have := hB.whb
    simp only at *
    omega

/-- A table is put behind the order. -/
theorem SpW.put {w0 w w3 : World} {WB WH base g cap : Nat} {u : V} {ta : Option Addr} {n cp : Nat} {ord : Value} {S T : List Nat} {r : Nat} {o : Obj} (h : SpW w0 w WB WH base u ta n cp ord S T) (hB : SpB w0 WB WH base) (hgrow : (w.alloc o).drew.grownBy w3 ord.ownBlock)
    (hown : w3.ownsRow base 3 1 (.slice (some ⟨g, 0, none⟩) (T.length + 1) cap) (T.length + 1) (natCells T ++ [.int .i64 (r : Nat)])) (hat : w.heap.size ≤ g ∨ ord.ownBlock = some g) :
    (w3.cell? ⟨WB, 6, none⟩ = some ord ∧ ∀ j, w3.frozen? ⟨WB, j, none⟩ = false) ∧ SpW w0 (w3.setCell ⟨WB, 6, none⟩ (.slice (some ⟨g, 0, none⟩) (T.length + 1) cap)) WB WH base u ta n cp (.slice (some ⟨g, 0, none⟩) (T.length + 1) cap) S (T ++ [r]) ∧
      FrV WB WH ord (.slice (some ⟨g, 0, none⟩) (T.length + 1) cap) w (w3.setCell ⟨WB, 6, none⟩ (.slice (some ⟨g, 0, none⟩) (T.length + 1) cap)) := by
  obtain ⟨_, _, _, hk⟩ := owns_form h.own
  have hwb : WB < w.heap.size := blk_lt h.blk
  have hwh : WH < w.heap.size := h.row.lt
  have hbl : ∀ k, k < w.heap.size → ord.ownBlock ≠ some k → w3.heap[k]? = w.heap[k]? := fun k hk hne =>
    (hgrow.block k (by show k < (w.alloc o).heap.size; simp; omega) (fun e => hne e.symm)).trans (Below.heap_alloc w o k hk)
  have n1 : ord.ownBlock ≠ some WB := fun e => by have := (hk _ e).1; have := hB.wbb; omega
  have n2 : ord.ownBlock ≠ some WH := fun e => by have := (hk _ e).1; have := hB.whb; omega
  have hblk := (hbl WB hwb n1).trans h.blk
  have hc := cells7 hblk
  have hgb : base ≤ g := by
    obtain ⟨_, _, e, hk'⟩ := owns_form hown
    exact (hk' g (by simp [Value.ownBlock])).1
  have hsz : w.heap.size ≤ w3.heap.size := by have := hgrow.size; simp [World.drew] at this; omega
  have ho : Only (fun k => k = WB ∨ k = WH ∨ ord.ownBlock = some k) w w3 := ⟨hgrow.os, hgrow.tape, hgrow.output, hsz, fun k hk hp => hbl k hk (fun e => hp (Or.inr (Or.inr e)))⟩
  refine ⟨⟨hc.2.2.1, hc.2.2.2⟩, ⟨?_, ?_, ?_, ?_⟩, ⟨ho.set (Or.inl rfl) _, fun k hk' e => ?_⟩⟩
  · simp [World.setCell, Array.getElem?_modify, hblk]
  · exact h.row.of_block ((Below.heap_setCell _ _ _ _ (fun e => hB.ne e.symm)).trans (hbl WH hwh n2))
  · rw [natCells_snoc, show (T ++ [r]).length = T.length + 1 by simp]
    exact ownsRow_setCell_other (a := ⟨WB, 6, none⟩) hown (by have := hB.wbb; simp only [Value.ownBlock, ne_eq, Option.some.injEq]; omega) _
  · refine (h.bel.trans (ho.toBelow (base := w0.heap.size) (fun k hk' => ?_) h.bel.size)).setCell hB.wb _
    rcases hk' with rfl | rfl | e
    · exact hB.wb
    · exact hB.wh
    · have := (hk _ e).1; have := hB.wb; have := hB.wbb; omega
  · simp only [Value.ownBlock, Option.some.injEq] at e
    subst e
    rcases hat with h' | h'
    · omega
    · exact h'

/-- Blocks turn that are none of the numberer's. -/
theorem SpW.far {w0 w w' : World} {WB WH base : Nat} {u : V} {ta : Option Addr} {n cp : Nat} {ord : Value} {S T : List Nat} {P : Nat → Prop} (h : SpW w0 w WB WH base u ta n cp ord S T) (ho : Only P w w') (h1 : ¬ P WB) (h2 : ¬ P WH) (h3 : ∀ g, ord.ownBlock = some g → ¬ P g) (h4 : ∀ k, P k → w0.heap.size ≤ k) : SpW w0 w' WB WH base u ta n cp ord S T :=
  ⟨(ho.block _ (blk_lt h.blk) h1).trans h.blk, h.row.of_block (ho.block _ h.row.lt h2), ho.ownsB h.own h3, h.bel.trans (ho.toBelow h4 h.bel.size)⟩

end Go.Proofs.Ytgflalfiopnmnab

namespace Go.Proofs.Ytgflalfiopnmnab
open Go.RowKit Vl

theorem share {G P : Prop} (h : Hid G → P) (g : G) : P := h g
theorem Try.infoN : (Try.prog.info? 3).map (fun i => (i.zero, i.size, i.bytes)) = some (some (.int .i64 0), 1, 8) := by kernel_rfl

set_option maxHeartbeats 2000000 in
set_option maxRecDepth 100000 in
/-- '(*l2W).val'. -/
theorem val_any (u : V) (ta : Option Addr) (n cp TB TO : Nat) (A : Nat → Option Addr) (L C RB RO : Nat → Nat) (K X : Nat → Nat → V) (w0 : World) (WB WH base : Nat) (hn : n ≤ 200) (HL : Hid (∀ r, r < n → L r ≤ 100)) (HG : Hid (Good n L X))
    (HT : Hid (TabsAt w0 ta n TB TO A L C RB RO K X)) (HB : Hid (SpB w0 WB WH base)) : ∀ (f : Nat) (S : List Nat) (v : V) (w : World) (ord : Value), Hid (Fit n S) → isV n v = true → n - S.length < f → base ≤ w.heap.size → Hid (SpW w0 w WB WH base u ta n cp ord S S) →
    Calls Try.prog 83 #[.pointer (some ⟨WB, 0, none⟩), .agg #[.int .i64 v.k, .int .i64 v.n, .string v.s, .int .i64 v.a]] w fun e w' => e = .returned (vAgg (renum (met L X f S v) v)) ∧ ∃ ord', SpW w0 w' WB WH base u ta n cp ord' (met L X f S v) (met L X f S v) ∧ FrV WB WH ord ord' w w' := by
  intro f
  induction f with
  | zero => intro S v w ord _ _ h; omega
  | succ f ih =>
    intro S v w ord HF hv hf hbase HW
    by_cases h4 : v.k = 4
    · obtain ⟨a0, a1⟩ := isV_tab hv h4
      obtain ⟨r, hr⟩ : ∃ r : Nat, v.a = r := ⟨v.a.toNat, by omega⟩
      have hrn : r < n := by omega
      obtain ⟨oa, oc, ho, hok⟩ := owns_form HW.out.own
      have A2 : Hid _ := alloc2 w (.cells #[.int .i64 v.k, .int .i64 v.n, .string v.s, .int .i64 v.a] 29) (.cells #[.int .i64 0, .int .i64 0, .string ⟨#[]⟩, .int .i64 0] 29)
      obtain ⟨w1, hw1⟩ : ∃ w1, w1 = (w.alloc (.cells #[.int .i64 v.k, .int .i64 v.n, .string v.s, .int .i64 v.a] 29)).alloc (.cells #[.int .i64 0, .int .i64 0, .string ⟨#[]⟩, .int .i64 0] 29) := ⟨_, rfl⟩
      have HB1 : Hid (Below w.heap.size w w1) := by rw [hw1]; exact A2.out.2.2.2
      have V1 : Hid (ValB w1 w.heap.size v) := by rw [hw1]; exact A2.out.1
      have R1 : Hid (ValB w1 (w.heap.size + 1) zeroV) := by rw [hw1]; exact A2.out.2.1
      have Z1 : Hid (w1.heap.size = w.heap.size + 2) := by rw [hw1]; exact A2.out.2.2.1
      have HW1 : Hid (SpW w0 w1 WB WH base u ta n cp ord S S) := HW.out.below HB1.out
      clear A2
      obtain ⟨x4, x5, x6, x7⟩ := cells7 HW.out.blk
      have xr := HW.out.row.cell hrn
      have l1 : WB < w.heap.size := blk_lt HW.out.blk
      have l2 : WH < w.heap.size := HW.out.row.lt
      have hbd : (0 : Int) ≤ (r : Int) ∧ (r : Int) < (n : Int) := by omega
      have hne : (v.k != 4) = false := by simpa using h4
      by_cases hm : r ∈ S
      · rw [whereIs_in hm] at xr
        have hE : Hid (met L X (f + 1) S v = S) := met_old (Or.inr (by rw [hr]; exact hm))
        have hR : Hid (renum S v = ⟨v.k, v.n, v.s, (S.idxOf r : Nat)⟩) := by
          show renum S v = _
          unfold renum
          rw [if_pos h4, hr]
          rfl
        obtain ⟨q, hq⟩ : ∃ q : Nat, S.idxOf r = q := ⟨_, rfl⟩
        rw [hq] at xr hR
        rw [hE.out, hR.out]
        have hge : ¬ ((q : Int) < 0) := by omega
        rw [hr]
        clear h4 hr x4 x6 hw1 HW1 HB1 V1 R1 Z1
        go_enter Try.func83, Try.ntmps83
        go_wp2
        go_region
        all_goals (try go_wp2)
        go_region
        all_goals (try go_wp2)
        have hb : Below w.heap.size w ((w.alloc (.cells #[.int .i64 v.k, .int .i64 v.n, .string v.s, .int .i64 (q : Nat)] 29)).alloc (.cells #[.int .i64 v.k, .int .i64 v.n, .string v.s, .int .i64 (q : Nat)] 29)) := ((Below.refl _ _).alloc (Nat.le_refl _) _).alloc (by simp) _
        refine bodyPost_ret (v := vAgg ⟨v.k, v.n, v.s, (q : Nat)⟩) (by simp [results, Try.results83, go_sem]) rfl ⟨rfl, ord, HW.out.below hb.drew.drew, FrV.first hb.drew.drew⟩
      · rw [whereIs_out hm] at xr
        have xz := HW.out.row.frozen r
        subst ho
        have hE : Hid (met L X (f + 1) S v = mets L X f (S ++ [r]) (X r) (L r)) := by
          have := met_new (L := L) (X := X) (f := f) (S := S) h4 (by rw [hr]; exact hm)
          rw [hr] at this
          exact this
        have HH4 : Hid (v.k = 4) := h4
        have HR0 : Hid (v.a = r) := hr
        rw [hr]
        rw [hE.out]
        clear h4 hr x4
        go_enter Try.func83, Try.ntmps83
        go_wp2
        go_region
        all_goals (try go_wp2)
        go_region
        all_goals (try go_wp2)
        obtain ⟨hWm, hFm⟩ := HW.out.mark HB.out hm
        obtain ⟨wm, hwm⟩ : ∃ wm, wm = w.setCell ⟨WH, r, none⟩ (.int .i64 (S.length : Nat)) := ⟨_, rfl⟩
        rw [← hwm] at hWm hFm ⊢
        have hszm : wm.heap.size = w.heap.size := by rw [hwm]; simp [World.setCell]
        clear hwm hw1 HW1 HB1 V1 R1 Z1
        have A2 : Hid _ := alloc2 wm (.cells #[.int .i64 v.k, .int .i64 v.n, .string v.s, .int .i64 (r : Nat)] 29) (.cells #[.int .i64 0, .int .i64 0, .string ⟨#[]⟩, .int .i64 0] 29)
        obtain ⟨w2, hw2⟩ : ∃ w2, w2 = ((wm.alloc (.cells #[.int .i64 v.k, .int .i64 v.n, .string v.s, .int .i64 (r : Nat)] 29)).alloc (.cells #[.int .i64 0, .int .i64 0, .string ⟨#[]⟩, .int .i64 0] 29)).drew.drew := ⟨_, rfl⟩
        rw [← hw2]
        rw [hszm] at A2
        have hb2 : Below wm.heap.size wm w2 := by rw [hw2, hszm]; exact A2.out.2.2.2.drew.drew
        have V2 : Hid (ValB w2 w.heap.size ⟨v.k, v.n, v.s, (r : Nat)⟩) := by rw [hw2]; exact A2.out.1
        have R2 : Hid (ValB w2 (w.heap.size + 1) zeroV) := by rw [hw2]; exact A2.out.2.1
        have Z2 : Hid (w2.heap.size = w.heap.size + 2) := by rw [hw2]; exact A2.out.2.2.1
        have HW2 : Hid (SpW w0 w2 WB WH base u ta n cp (.slice oa S.length oc) (S ++ [r]) S) := hWm.below hb2
        have HF2 : Hid (FrV WB WH (.slice oa S.length oc) (.slice oa S.length oc) w w2) := hFm.below hb2
        clear hw2 hb2 hWm hFm hszm A2 x5 x6 x7 xr xz
        obtain ⟨i0, hi, hz0, hz1, hz2⟩ := info_parts Try.infoN
        obtain ⟨_, _, x6, _⟩ := cells7 HW2.out.blk
        obtain ⟨_, _, _, c3, _⟩ := cells4 V2.out
        simp only at c3
        apply share
        · intro hG
          refine wp_region_held_drew (S := fun w' => w'.cell? ⟨w.heap.size, 3, none⟩ = some (.int .i64 (r : Nat))) (by kernel_rfl) c3 (fun hHeld => ?_)
          refine wpAnyH_take (i := 0) (v := .pointer (some ⟨WB, 0, none⟩)) rfl (by kernel_rfl) (by kernel_rfl) (by kernel_rfl) (fun _ _ _ h => h) (Or.inl ⟨by rfl, fun w hSw => ?_⟩) hHeld ?_
          · first | rfl | go_simp
          simp only [Act.put, List.setIfInBounds_toArray, List.set_cons_zero, List.set_cons_succ, List.getElem_toArray, List.getElem_cons_zero]
          refine wpAnyH_take (i := 1) (v := .pointer (some ⟨WB, 0, none⟩)) rfl (by kernel_rfl) (by kernel_rfl) (by kernel_rfl) (fun _ _ _ h => h) (Or.inl ⟨by rfl, fun w hSw => ?_⟩) hHeld ?_
          · first | rfl | go_simp
          simp only [Act.put, List.setIfInBounds_toArray, List.set_cons_zero, List.set_cons_succ, List.getElem_toArray, List.getElem_cons_zero, List.getElem_cons_succ]
          refine wpAnyH_take (i := 2) (v := .pointer (some ⟨WB, 0, none⟩)) rfl (by kernel_rfl) (by kernel_rfl) (by kernel_rfl) (fun _ _ _ h => h) (Or.inl ⟨by rfl, fun w hSw => ?_⟩) hHeld ?_
          · first | rfl | go_simp
          simp only [Act.put, List.setIfInBounds_toArray, List.set_cons_zero, List.set_cons_succ, List.getElem_toArray, List.getElem_cons_zero, List.getElem_cons_succ]
          refine wpAnyH_take (i := 3) (v := .pointer (some ⟨WB, 6, none⟩)) rfl (by kernel_rfl) (by kernel_rfl) (by kernel_rfl) (fun _ _ _ h => h) (Or.inl ⟨by rfl, fun w hSw => ?_⟩) hHeld ?_
          · first | rfl | go_simp
          simp only [Act.put, List.setIfInBounds_toArray, List.set_cons_zero, List.set_cons_succ, List.getElem_toArray, List.getElem_cons_zero, List.getElem_cons_succ]
          refine wpAnyH_take (i := 5) (v := .pointer (some ⟨w.heap.size, 3, none⟩)) rfl (by kernel_rfl) (by kernel_rfl) (by kernel_rfl) (fun _ _ _ h => h) (Or.inl ⟨by rfl, fun w hSw => ?_⟩) hHeld ?_
          · first | rfl | go_simp
          simp only [Act.put, List.setIfInBounds_toArray, List.set_cons_zero, List.set_cons_succ, List.getElem_toArray, List.getElem_cons_zero, List.getElem_cons_succ]
          refine wpAnyH_take (i := 6) (v := .int .i64 (r : Nat)) rfl (by kernel_rfl) (by kernel_rfl) (by kernel_rfl) (fun _ _ _ h => h) (Or.inl ⟨by rfl, fun w hSw => ?_⟩) hHeld ?_
          · first | rfl | (go_simp)
          simp only [Act.put, List.setIfInBounds_toArray, List.set_cons_zero, List.set_cons_succ, List.getElem_toArray, List.getElem_cons_zero, List.getElem_cons_succ]
          refine wpAnyH_ready (rs := [4, 7]) (by kernel_rfl) (by simp) ?_
          refine AllReadyH.cons rfl (fun K' hK' => ?_) (AllReadyH.cons rfl (fun K' hK' => ?_) AllReadyH.nil)
          · go_simp
            refine hK'.out _ _ c3 (fun hHeld => ?_)
            clear hK'
            refine wpAnyH_ready (rs := [7]) (by kernel_rfl) (by simp) ?_
            refine AllReadyH.cons rfl (fun K' hK' => ?_) AllReadyH.nil
            go_simp
            refine hK'.out _ _ ?_ (fun hHeld => ?_)
            · exact (((Below.refl w2.heap.size w2).alloc (Nat.le_refl _) _).drew.cell (p := ⟨w.heap.size, 3, none⟩) (by have := Z2.out; show w.heap.size < _; omega)).trans c3
            clear hK'
            exact hG.out
          · go_simp
            refine hK'.out _ _ ?_ (fun hHeld => ?_)
            · exact (((Below.refl w2.heap.size w2).alloc (Nat.le_refl _) _).drew.cell (p := ⟨w.heap.size, 3, none⟩) (by have := Z2.out; show w.heap.size < _; omega)).trans c3
            clear hK'
            have x6' : ∀ o, (w2.alloc o).cell? ⟨WB, 6, none⟩ = some (.slice oa S.length oc) := fun o => (((Below.refl w2.heap.size w2).alloc (Nat.le_refl _) o).cell (p := ⟨WB, 6, none⟩) (blk_lt HW2.out.blk)).trans x6
            refine wpAnyH_ready (rs := [4]) (by kernel_rfl) (by simp) ?_
            refine AllReadyH.cons rfl (fun K' hK' => ?_) AllReadyH.nil
            go_simp
            refine hK'.out _ _ ?_ (fun hHeld => ?_)
            · exact (((Below.refl w2.heap.size w2).alloc (Nat.le_refl _) _).drew.cell (p := ⟨w.heap.size, 3, none⟩) (by have := Z2.out; show w.heap.size < _; omega)).trans c3
            clear hK'
            exact hG.out
        · have hHeld : (fun w' : World => w'.cell? ⟨w.heap.size, 3, none⟩ = some (.int .i64 (r : Nat))) (w2.alloc (.cells #[.int .i64 (r : Nat)] 3)).drew := (((Below.refl w2.heap.size w2).alloc (Nat.le_refl _) _).drew.cell (p := ⟨w.heap.size, 3, none⟩) (by have := Z2.out; show w.heap.size < _; omega)).trans c3
          have hSl : S.length ≤ 200 := Nat.le_trans HF.out.len hn
          have hz2s := Z2.out
          refine wpAnyH_ready (rs := [8]) (by kernel_rfl) (by simp) ?_
          refine AllReadyH.cons rfl (fun K' hK' => ?_) AllReadyH.nil
          refine step_append_lies _ (by rfl) (.tmp 36) (.tmp 39) 51 (by rfl) base 3 i0 (.int .i64 0) 1 8 Try.underlying51 hi hz0 hz1 hz2 (by rfl) (by omega) (.slice oa S.length oc) S.length (natCells S) (by rfl) (((Only.below (P := fun _ => False) (((Below.refl w2.heap.size w2).alloc (Nat.le_refl _) _).drew)).owns HW2.out.own (fun _ _ _ h => h))) ⟨w2.heap.size, 0, none⟩ 1 1 [.int .i64 (r : Nat)] (by rfl) (by rfl) (World.news_of_block (w := (w2.alloc _).drew) (heap_alloc_new w2 _)) (by intro u hu; simp at hu; subst hu; rfl) (by omega) (by unfold maxLen; omega) (by omega) (by show base ≤ (w2.alloc _).heap.size; simp; omega) (w2.heap.size + 1) (by show (w2.alloc _).heap.size = _; simp) ?_
          intro g cap w3 hown3 hgrow3 hat hlt
          obtain ⟨⟨e6, ez⟩, hW4, hF4⟩ := HW2.out.put HB.out hgrow3 hown3 (by rcases hat with h | h; exact Or.inr h; exact Or.inl (by omega))
          have HW4 : Hid _ := hW4
          have HF4 : Hid _ := hF4
          have S3 : w3.cell? ⟨w.heap.size, 3, none⟩ = some (.int .i64 (r : Nat)) := (hgrow3.cell_far ⟨w.heap.size, 3, none⟩ (by show w.heap.size < (w2.alloc _).heap.size; simp; omega) (fun e => by have := (hok _ e.symm).2; simp only at this; omega)).trans hHeld
          have S4 : Hid ((w3.setCell ⟨WB, 6, none⟩ (.slice (some ⟨g, 0, none⟩) (S.length + 1) cap)).cell? ⟨w.heap.size, 3, none⟩ = some (.int .i64 (r : Nat))) := by
            have e := Below.heap_setCell w3 ⟨WB, 6, none⟩ (.slice (some ⟨g, 0, none⟩) (S.length + 1) cap) w.heap.size (show w.heap.size ≠ WB by omega)
            show _ = _
            rw [World.cell?_of_block e]
            exact S3
          refine hK'.out _ _ S3 (fun hHeld => ?_)
          clear hK' hW4 hF4 hown3 hgrow3 hat
          simp only [Act.put, List.setIfInBounds_toArray, List.set_cons_zero, List.set_cons_succ, List.getElem_toArray, List.getElem_cons_zero, List.getElem_cons_succ]
          refine wpAnyH_take (i := 9) (v := .pointer (some ⟨WB, 0, none⟩)) rfl (by kernel_rfl) (by kernel_rfl) (by kernel_rfl) (fun _ _ _ h => h) (Or.inl ⟨by rfl, fun w hSw => ?_⟩) hHeld ?_
          · first | rfl | go_simp
          simp only [Act.put, List.setIfInBounds_toArray, List.set_cons_zero, List.set_cons_succ, List.getElem_toArray, List.getElem_cons_zero, List.getElem_cons_succ]
          refine wpAnyH_take (i := 10) (v := .pointer (some ⟨WB, 6, none⟩)) rfl (by kernel_rfl) (by kernel_rfl) (by kernel_rfl) (fun _ _ _ h => h) (Or.inl ⟨by rfl, fun w hSw => ?_⟩) hHeld ?_
          · first | rfl | go_simp
          simp only [Act.put, List.setIfInBounds_toArray, List.set_cons_zero, List.set_cons_succ, List.getElem_toArray, List.getElem_cons_zero, List.getElem_cons_succ]
          refine wpAnyH_ready (rs := [11]) (by kernel_rfl) (by simp) ?_
          refine AllReadyH.cons rfl (fun K' hK' => ?_) AllReadyH.nil
          clear hHeld S3
          go_simp
          refine hK'.out _ _ S4.out (fun hHeld => ?_)
          clear hK' hHeld
          refine wpAnyH_done (by kernel_rfl) ?_ _
          obtain ⟨w4, hw4⟩ : ∃ w4, w4 = w3.setCell ⟨WB, 6, none⟩ (.slice (some ⟨g, 0, none⟩) (S.length + 1) cap) := ⟨_, rfl⟩
          rw [← hw4] at HW4 HF4 ⊢
          clear hw4 S4 e6 ez hlt c3 x6 hi hz0 hz1 hz2
          obtain ⟨ord4, ho4⟩ : ∃ o, Value.slice (some ⟨g, 0, none⟩) (S.length + 1) cap = o := ⟨_, rfl⟩
          rw [ho4] at HW4 HF4
          have hta := HT.out.top (by omega)
          subst hta
          obtain ⟨x4, x5, x6, x7⟩ := cells7 HW4.out.blk
          have V4 : Hid (ValB w4 w.heap.size ⟨v.k, v.n, v.s, (r : Nat)⟩) := HF4.out.blk V2.out (by omega) (by omega) (fun e => by have := (hok _ e).2; omega)
          obtain ⟨_, _, _, c3, _⟩ := cells4 V4.out
          simp only at c3
          have HT4 : Hid (TabsAt w4 (some ⟨TB, TO, none⟩) n TB TO A L C RB RO K X) := HT.out.below HW4.out.bel
          have t0 := HT4.out.tab r hrn
          obtain ⟨pa, hpa⟩ : ∃ a, A r = a := ⟨_, rfl⟩
          rw [hpa] at t0
          have HP : Hid (PairsAt w0 pa (L r) (RB r) (RO r) (K r) (X r)) := hpa ▸ HT.out.row r hrn
          have hLr := HL.out r hrn
          go_wp2
          go_region
          all_goals (try go_wp2)
          have HW5 : Hid (SpW w0 w4.drew WB WH base u (some ⟨TB, TO, none⟩) n cp ord4 (S ++ [r]) (S ++ [r])) := HW4.out.below (Below.refl _ _).drew
          have HF5 : Hid (FrV WB WH (.slice oa S.length oc) ord4 w2 w4.drew) := HF4.out.below (Below.refl _ _).drew
          have HA : Hid (Grows n S (S ++ [r])) := HF.out.add hrn hm
          clear x4 x5 x6 x7 c3 t0 V4 HT4 HW4 HF4 hpa ho4 hbd
          have hszS : n - (S ++ [r]).length < f := by
            have := HF.out.less hrn hm
            simp
            omega
          go_loopw [54] (fun ii wr => ∃ (c : Nat) (oc' : Value), c ≤ L r ∧ ii = .int .i64 c ∧ Hid (Grows n (S ++ [r]) (mets L X f (S ++ [r]) (X r) c)) ∧ Hid (SpW w0 wr WB WH base u (some ⟨TB, TO, none⟩) n cp oc' (mets L X f (S ++ [r]) (X r) c) (mets L X f (S ++ [r]) (X r) c)) ∧ Hid (FrV WB WH (.slice oa S.length oc) oc' w2 wr)) (fun ii _ => L r - (intOf ii).toNat)
          case atStart => exact ⟨0, ord4, Nat.zero_le _, rfl, HA.out.fit.refl, HW5, HF5⟩
          case round =>
            obtain ⟨c, o5, hc, rfl, HGr, HWr, HFr⟩ := hrel
            clear HW5 HF5
            have hsr : w2.heap.size ≤ wr.heap.size := HFr.out.only.size
            by_cases hlt : c < L r
            · obtain rfl := HP.out.top (by omega)
              obtain ⟨⟨k0, k1, k2, k3⟩, ⟨v0, v1, v2, v3⟩⟩ := (HP.out.below HWr.out.bel).cells hlt
              obtain ⟨Sc, HSc⟩ : ∃ Sc, Hid (mets L X f (S ++ [r]) (X r) c = Sc) := ⟨_, rfl⟩
              rw [HSc.out] at HGr HWr
              have HSn : Hid (mets L X f (S ++ [r]) (X r) (c + 1) = met L X f Sc (X r c)) := by rw [mets_succ, HSc.out]; exact rfl
              obtain ⟨wp, hwp⟩ : ∃ wp, wp = wr.alloc (.cells #[.int .i64 (K r c).k, .int .i64 (K r c).n, .string (K r c).s, .int .i64 (K r c).a, .int .i64 (X r c).k, .int .i64 (X r c).n, .string (X r c).s, .int .i64 (X r c).a] 63) := ⟨_, rfl⟩
              have hbp : Below wr.heap.size wr wp := by rw [hwp]; exact (Below.refl _ _).alloc (Nat.le_refl _) _
              have HWp : Hid (SpW w0 wp WB WH base u (some ⟨TB, TO, none⟩) n cp o5 Sc Sc) := HWr.out.below hbp
              have HFp : Hid (FrV WB WH (.slice oa S.length oc) o5 w2 wp) := HFr.out.below hbp
              have hiv := HG.out r hrn c hlt
              have hlen := HGr.out.len
              have hcall := ih Sc (X r c) wp o5 HGr.out.fit hiv (by omega) (by have := hbp.size; omega) HWp
              have hall := met_all HG.out f Sc (X r c) HGr.out.fit hiv (by omega)
              have HGn : Hid (Grows n (S ++ [r]) (met L X f Sc (X r c))) := HGr.out.trans hall.1
              clear hall hlen hbp hiv
              go_wp2_with fail
              rw [← hwp]
              refine hcall.mono ?_
              clear hcall hwp k0 k1 k2 k3 v0 v1 v2 v3
              rintro e w5 ⟨rfl, o6, hW6, hF6⟩
              have HW6 : Hid (SpW w0 w5 WB WH base u (some ⟨TB, TO, none⟩) n cp o6 (met L X f Sc (X r c)) (met L X f Sc (X r c))) := hW6
              have HF6 : Hid (FrV WB WH (.slice oa S.length oc) o6 w2 w5) := HFp.out.trans hF6
              clear hW6 hF6 HWp HFp HWr HFr
              go_wp2
              go_roundw
              case rel => exact ⟨c + 1, o6, by omega, by go_num, by rw [HSn.out]; exact HGn, by rw [HSn.out]; exact HW6, HF6⟩
              case measure => simp [intOf]; omega
            · obtain rfl : c = L r := by omega
              obtain ⟨Sc, HSc⟩ : ∃ Sc, Hid (mets L X f (S ++ [r]) (X r) (L r) = Sc) := ⟨_, rfl⟩
              rw [HSc.out] at HGr HWr
              have hmem : r ∈ Sc := HGr.out.mem (by simp)
              obtain ⟨q, hq⟩ : ∃ q : Nat, Sc.idxOf r = q := ⟨_, rfl⟩
              have hR : Hid (renum Sc v = ⟨v.k, v.n, v.s, (q : Nat)⟩) := by
                show renum Sc v = _
                unfold renum
                rw [if_pos HH4.out, HR0.out, ← hq]
                rfl
              have xr := HWr.out.row.cell hrn
              rw [whereIs_in hmem, hq] at xr
              obtain ⟨x4, x5, x6, x7⟩ := cells7 HWr.out.blk
              have n0 : ∀ k, w.heap.size ≤ k → (Value.slice oa S.length oc).ownBlock ≠ some k := fun k hk e => by have := (hok _ e).2; omega
              have Vr : Hid (ValB wr w.heap.size ⟨v.k, v.n, v.s, (r : Nat)⟩) := HFr.out.blk V2.out (by omega) (by omega) (n0 _ (by omega))
              have Rr : Hid (ValB wr (w.heap.size + 1) zeroV) := HFr.out.blk R2.out (by omega) (by omega) (n0 _ (by omega))
              obtain ⟨c0, c1, c2, c3, c4⟩ := cells4 Vr.out
              obtain ⟨r0, r1, r2, r3, r4⟩ := cells4 Rr.out
              simp only at c0 c1 c2 c3
              have hbd : (0 : Int) ≤ (r : Int) ∧ (r : Int) < (n : Int) := by omega
              go_wp2
              go_region
              all_goals (try go_wp2)
              have hz2s := Z2.out
              have ho : Only (fun k => k = w.heap.size ∨ k = w.heap.size + 1) wr (((((wr.setCell ⟨w.heap.size, 3, none⟩ (.int .i64 (q : Nat))).setCell ⟨w.heap.size + 1, 0, none⟩ (.int .i64 v.k)).setCell ⟨w.heap.size + 1, 1, none⟩ (.int .i64 v.n)).setCell ⟨w.heap.size + 1, 2, none⟩ (.string v.s)).setCell ⟨w.heap.size + 1, 3, none⟩ (.int .i64 (q : Nat))).drew :=
                ((((((Only.refl _ _).set (Or.inl rfl) _).set (Or.inr rfl) _).set (Or.inr rfl) _).set (Or.inr rfl) _).set (Or.inr rfl) _).trans (Only.below ((Below.refl _ _).drew))
              have hfin : ValB ((((wr.setCell ⟨w.heap.size, 3, none⟩ (.int .i64 (q : Nat))).setCell ⟨w.heap.size + 1, 0, none⟩ (.int .i64 v.k)).setCell ⟨w.heap.size + 1, 1, none⟩ (.int .i64 v.n)).setCell ⟨w.heap.size + 1, 2, none⟩ (.string v.s) |>.setCell ⟨w.heap.size + 1, 3, none⟩ (.int .i64 (q : Nat))) (w.heap.size + 1) ⟨v.k, v.n, v.s, (q : Nat)⟩ :=
                ValB.put (show ValB _ (w.heap.size + 1) zeroV from (Below.heap_setCell _ _ _ _ (show w.heap.size + 1 ≠ w.heap.size by omega)).trans Rr.out) ⟨v.k, v.n, v.s, (q : Nat)⟩
              obtain ⟨q0, q1, q2, q3, _⟩ := cells4 hfin
              simp only at q0 q1 q2 q3
              rw [HSc.out, hR.out]
              refine bodyPost_ret (v := vAgg ⟨v.k, v.n, v.s, (q : Nat)⟩) (by simp [results, Try.results83, go_sem, q0, q1, q2, q3]) rfl ⟨rfl, o5, ?_, ?_⟩
              · refine HWr.out.far ho (by omega) (by omega) (fun k hk hP => ?_) (fun k hP => ?_)
                · have hlt2 : k < w2.heap.size := by omega
                  have := (hok _ (HFr.out.nxt k hlt2 hk)).2
                  omega
                · have := HB.out.wb
                  omega
              · exact (HF2.out.trans HFr.out).new (ho.toBelow (fun k hP => by omega) (by omega))
    · have hne : (v.k != 4) = true := by simpa using h4
      have hE : Hid (met L X (f + 1) S v = S) := met_old (Or.inl h4)
      have hR : Hid (renum S v = v) := by show renum S v = v; unfold renum; rw [if_neg h4]
      rw [hE.out, hR.out]
      go_enter Try.func83, Try.ntmps83
      go_wp2
      have hb : Below w.heap.size w ((w.alloc (.cells #[.int .i64 v.k, .int .i64 v.n, .string v.s, .int .i64 v.a] 29)).alloc (.cells #[.int .i64 v.k, .int .i64 v.n, .string v.s, .int .i64 v.a] 29)) := ((Below.refl _ _).alloc (Nat.le_refl _) _).alloc (by simp) _
      refine bodyPost_ret (v := vAgg v) (by simp [results, Try.results83, go_sem]) rfl ⟨rfl, ord, HW.out.below hb, FrV.first hb⟩

end Go.Proofs.Ytgflalfiopnmnab

namespace Go.Proofs.Ytgflalfiopnmnab
open Go.RowKit Vl

/-- The cells of c pairs. -/
def pairCells (K X : Nat → V) (c : Nat) : List Value := (List.range c).flatMap fun j => [.int .i64 (K j).k, .int .i64 (K j).n, .string (K j).s, .int .i64 (K j).a, .int .i64 (X j).k, .int .i64 (X j).n, .string (X j).s, .int .i64 (X j).a]
theorem pairCells_succ (K X : Nat → V) (c : Nat) : pairCells K X (c + 1) = pairCells K X c ++ [.int .i64 (K c).k, .int .i64 (K c).n, .string (K c).s, .int .i64 (K c).a, .int .i64 (X c).k, .int .i64 (X c).n, .string (X c).s, .int .i64 (X c).a] := by
  simp [pairCells, List.range_succ]
theorem pairCells_len (K X : Nat → V) (c : Nat) : (pairCells K X c).length = c * 8 := by
  induction c with
  | zero => rfl
  | succ c ih => rw [pairCells_succ, List.length_append, ih]; simp; omega
theorem pairCells_at (K X : Nat → V) (c j i : Nat) (hj : j < c) (hi : i < 8) : (pairCells K X c)[j * 8 + i]? = [Value.int .i64 (K j).k, .int .i64 (K j).n, .string (K j).s, .int .i64 (K j).a, .int .i64 (X j).k, .int .i64 (X j).n, .string (X j).s, .int .i64 (X j).a][i]? := by
  induction c with
  | zero => omega
  | succ c ih =>
    rw [pairCells_succ]
    by_cases e : j = c
    · subst e
      rw [List.getElem?_append_right (by rw [pairCells_len]; omega), pairCells_len, show j * 8 + i - j * 8 = i by omega]
    · rw [List.getElem?_append_left (by rw [pairCells_len]; omega)]
      exact ih (by omega)
theorem pairCells_congr {K X K' X' : Nat → V} {c : Nat} (h : ∀ j, j < c → K j = K' j ∧ X j = X' j) : pairCells K X c = pairCells K' X' c := by
  induction c with
  | zero => rfl
  | succ c ih => rw [pairCells_succ, pairCells_succ, ih (fun j hj => h j (by omega)), (h c (by omega)).1, (h c (by omega)).2]

/-- Pairs that are owned, as they are read. -/
theorem owns_pairs {w : World} {base L : Nat} {v : Value} {K X : Nat → V} (h : w.ownsRow base 63 8 v L (pairCells K X L)) : v = .slice (slA v) L (slC v) ∧ PairsAt w (slA v) L (slB v) 0 K X := by
  have hform : v = .slice (slA v) L (slC v) := by
    obtain ⟨oa, oc, rfl, _⟩ := owns_form h
    rfl
  refine ⟨hform, ?_⟩
  have top : ∀ j i, j < L → i < 8 → ∃ g cap, v = .slice (some ⟨g, 0, none⟩) L cap ∧ w.cell? ⟨g, j * 8 + i, none⟩ = [Value.int .i64 (K j).k, .int .i64 (K j).n, .string (K j).s, .int .i64 (K j).a, .int .i64 (X j).k, .int .i64 (X j).n, .string (X j).s, .int .i64 (X j).a][i]? := by
    intro j i hj hi
    have e := pairCells_at K X L j i hj hi
    obtain ⟨y, hy⟩ : ∃ y, [Value.int .i64 (K j).k, .int .i64 (K j).n, .string (K j).s, .int .i64 (K j).a, .int .i64 (X j).k, .int .i64 (X j).n, .string (X j).s, .int .i64 (X j).a][i]? = some y := ⟨_, List.getElem?_eq_getElem (by simpa using hi)⟩
    rw [hy] at e ⊢
    exact owns_cell h e
  have cell : ∀ j i, j < L → i < 8 → w.cell? ⟨slB v, j * 8 + i, none⟩ = [Value.int .i64 (K j).k, .int .i64 (K j).n, .string (K j).s, .int .i64 (K j).a, .int .i64 (X j).k, .int .i64 (X j).n, .string (X j).s, .int .i64 (X j).a][i]? := by
    intro j i hj hi
    obtain ⟨g, cap, rfl, hc⟩ := top j i hj hi
    exact hc
  refine ⟨fun h0 => ?_, fun j hj => ?_, fun j hj => ?_⟩
  · obtain ⟨g, cap, rfl, _⟩ := top 0 0 h0 (by omega)
    rfl
  · rw [Nat.zero_add]
    exact ⟨cell j 0 hj (by omega), cell j 1 hj (by omega), cell j 2 hj (by omega), cell j 3 hj (by omega)⟩
  · rw [Nat.zero_add]
    exact ⟨cell j 4 hj (by omega), cell j 5 hj (by omega), cell j 6 hj (by omega), cell j 7 hj (by omega)⟩

/-- Tables that a call itself makes, one behind the other: table j is the slice PV j. -/
structure OTab (w : World) (base : Nat) (tv : Value) (i : Nat) (PV : Nat → Value) (L : Nat → Nat) (K X : Nat → Nat → V) : Prop where
  own : w.ownsRow base 61 1 tv i ((List.range i).map PV)
  rows : ∀ j, j < i → w.ownsRow base 63 8 (PV j) (L j) (pairCells (K j) (X j) (L j))
  dis : ∀ j k, j < k → k < i → ∀ g, (PV j).ownBlock = some g → (PV k).ownBlock ≠ some g

theorem OTab.nil (w : World) (base : Nat) (PV : Nat → Value) (L : Nat → Nat) (K X : Nat → Nat → V) : OTab w base (.slice none 0 0) 0 PV L K X := ⟨World.ownsRow_nil _ _ _ _, fun _ hj => absurd hj (Nat.not_lt_zero _), fun _ _ _ hk => absurd hk (Nat.not_lt_zero _)⟩
theorem OTab.only {w w' : World} {base : Nat} {tv : Value} {i : Nat} {PV : Nat → Value} {L : Nat → Nat} {K X : Nat → Nat → V} {P : Nat → Prop} (h : OTab w base tv i PV L K X) (ho : Only P w w') (hP : ∀ k, base ≤ k → ¬ P k) : OTab w' base tv i PV L K X :=
  ⟨ho.owns h.own (fun g hg _ => hP g hg), fun j hj => ho.owns (h.rows j hj) (fun g hg _ => hP g hg), h.dis⟩
theorem OTab.below {w w' : World} {base : Nat} {tv : Value} {i : Nat} {PV : Nat → Value} {L : Nat → Nat} {K X : Nat → Nat → V} (h : OTab w base tv i PV L K X) (hb : Below w.heap.size w w') : OTab w' base tv i PV L K X := h.only (Only.below (P := fun _ => False) hb) (fun _ _ h => h)

theorem OTab.onlyB {w w' : World} {base : Nat} {tv : Value} {i : Nat} {PV : Nat → Value} {L : Nat → Nat} {K X : Nat → Nat → V} {P : Nat → Prop} (h : OTab w base tv i PV L K X) (ho : Only P w w') (h1 : ∀ g, tv.ownBlock = some g → ¬ P g) (h2 : ∀ j, j < i → ∀ g, (PV j).ownBlock = some g → ¬ P g) : OTab w' base tv i PV L K X :=
  ⟨ho.ownsB h.own h1, fun j hj => ho.ownsB (h.rows j hj) (h2 j hj), h.dis⟩
/-- One table more: its pairs lie in a row of their own, of this call's making since 'fresh'. -/
theorem OTab.more {w w1 : World} {base : Nat} {tv tv' pv : Value} {i : Nat} {PV : Nat → Value} {L : Nat → Nat} {K X : Nat → Nat → V} (h : OTab w base tv i PV L K X) {l : Nat} {k x : Nat → V} (hp : w.ownsRow base 63 8 pv l (pairCells k x l)) (hd : ∀ j, j < i → ∀ g, (PV j).ownBlock = some g → pv.ownBlock ≠ some g) (o : Obj) (hbz : base ≤ w.heap.size)
    (ho : w1.ownsRow base 61 1 tv' (i + 1) (((List.range i).map PV) ++ [pv])) (hg : (w.alloc o).grownBy w1 tv.ownBlock) :
    OTab w1 base tv' (i + 1) (fun j => if j = i then pv else PV j) (fun j => if j = i then l else L j) (fun j => if j = i then k else K j) (fun j => if j = i then x else X j) ∧ Below base w w1 := by
  have keep : ∀ v n xs, w.ownsRow base 63 8 v n xs → w1.ownsRow base 63 8 v n xs := fun v n xs hr => by
    refine ⟨hr.1, ?_⟩
    rcases hr.2 with h2 | ⟨g, cap, cur, hv, hge, hh, r⟩
    · exact Or.inl h2
    · refine Or.inr ⟨g, cap, cur, hv, hge, ?_, r⟩
      rw [hg.block g (by have := lt_of_block hh; simp; omega) (fun e => ?_), Below.heap_alloc _ _ _ (lt_of_block hh)]
      · exact hh
      · obtain ⟨_, cur', h'⟩ := owns_type h.own e.symm
        rw [hh] at h'
        cases h'
  refine ⟨⟨?_, fun j hj => ?_, fun a b hab hb g hga => ?_⟩, ?_⟩
  · have e : ((List.range (i + 1)).map fun j => if j = i then pv else PV j) = ((List.range i).map PV) ++ [pv] := by
      rw [List.range_succ, List.map_append]
      congr 1
      · apply List.map_congr_left
        intro j hj
        have := List.mem_range.1 hj
        simp [show ¬ j = i by omega]
      · simp
    rw [e]; exact ho
  · by_cases e : j = i
    · subst e; simp only [if_true]; exact keep _ _ _ hp
    · simp only [e, if_false]; exact keep _ _ _ (h.rows j (by omega))
  · simp only [show ¬ a = i by omega, if_false] at hga
    by_cases e : b = i
    · subst e; simp only [if_true]; exact hd a (by omega) g hga
    · simp only [e, if_false]; exact h.dis a b hab (by omega) g hga
  · refine ⟨hg.os, hg.tape, hg.output, by have := hg.size; simp at this; omega, fun k hk => ?_⟩
    rw [hg.block k (by simp; omega) (fun e => ?_), Below.heap_alloc _ _ _ (by omega)]
    have := (owns_type h.own e.symm).1
    omega

theorem OTab.congr {w : World} {base : Nat} {tv : Value} {i : Nat} {PV : Nat → Value} {L L' : Nat → Nat} {K X K' X' : Nat → Nat → V} (h : OTab w base tv i PV L K X) (hL : ∀ j, j < i → L j = L' j) (hK : ∀ j, j < i → ∀ c, c < L' j → K j c = K' j c ∧ X j c = X' j c) : OTab w base tv i PV L' K' X' := by
  refine ⟨h.own, fun j hj => ?_, h.dis⟩
  have := h.rows j hj
  rw [hL j hj, pairCells_congr (fun c hc => hK j hj c hc)] at this
  exact this

/-- What was made, as it is read. -/
theorem OTab.tabs {w : World} {base : Nat} {tv : Value} {i : Nat} {PV : Nat → Value} {L : Nat → Nat} {K X : Nat → Nat → V} (h : OTab w base tv i PV L K X) : tv = .slice (slA tv) i (slC tv) ∧ TabsAt w (slA tv) i (slB tv) 0 (fun j => slA (PV j)) L (fun j => slC (PV j)) (fun j => slB (PV j)) (fun _ => 0) K X := by
  refine ⟨by obtain ⟨oa, oc, rfl, _⟩ := owns_form h.own; rfl, fun h0 => ?_, fun r hr => ?_, fun r hr => (owns_pairs (h.rows r hr)).2⟩
  · obtain ⟨g, cap, rfl, _⟩ := owns_cell h.own (k := 0) (y := PV 0) (by simp [h0])
    rfl
  · obtain ⟨g, cap, rfl, hc⟩ := owns_cell h.own (k := r) (y := PV r) (by simp [hr])
    rw [Nat.zero_add]
    rw [← (owns_pairs (h.rows r hr)).1]
    exact hc

end Go.Proofs.Ytgflalfiopnmnab

namespace Go.Proofs.Ytgflalfiopnmnab
open Go.RowKit Vl

set_option maxHeartbeats 1000000 in
set_option maxRecDepth 100000 in
/-- '(*l2W).val' of what has been met. -/
theorem val_old (u : V) (ta : Option Addr) (n cp : Nat) (w0 : World) (WB WH base : Nat) (S : List Nat) (v : V) (w : World) (ord : Value) (hv : isV n v = true) (hin : v.k = 4 → v.a.toNat ∈ S) (HW : Hid (SpW w0 w WB WH base u ta n cp ord S S)) :
    Calls Try.prog 83 #[.pointer (some ⟨WB, 0, none⟩), .agg #[.int .i64 v.k, .int .i64 v.n, .string v.s, .int .i64 v.a]] w fun e w' => e = .returned (vAgg (renum S v)) ∧ Below w.heap.size w w' := by
  by_cases h4 : v.k = 4
  · have hm := hin h4
    obtain ⟨a0, a1⟩ := isV_tab hv h4
    obtain ⟨r, hr⟩ : ∃ r : Nat, v.a = r := ⟨v.a.toNat, by omega⟩
    have hrn : r < n := by omega
    rw [hr] at hm
    have hm : r ∈ S := hm
    obtain ⟨x4, x5, x6, x7⟩ := cells7 HW.out.blk
    have xr := HW.out.row.cell hrn
    have l1 : WB < w.heap.size := blk_lt HW.out.blk
    have l2 : WH < w.heap.size := HW.out.row.lt
    have hbd : (0 : Int) ≤ (r : Int) ∧ (r : Int) < (n : Int) := by omega
    have hne : (v.k != 4) = false := by simpa using h4
    rw [whereIs_in hm] at xr
    have hR : Hid (renum S v = ⟨v.k, v.n, v.s, (S.idxOf r : Nat)⟩) := by
      show renum S v = _
      unfold renum
      rw [if_pos h4, hr]
      rfl
    obtain ⟨q, hq⟩ : ∃ q : Nat, S.idxOf r = q := ⟨_, rfl⟩
    rw [hq] at xr hR
    rw [hR.out]
    have hge : ¬ ((q : Int) < 0) := by omega
    rw [hr]
    clear h4 hr x4 x6 hin
    go_enter Try.func83, Try.ntmps83
    go_wp2
    go_region
    all_goals (try go_wp2)
    go_region
    all_goals (try go_wp2)
    have hb : Below w.heap.size w ((w.alloc (.cells #[.int .i64 v.k, .int .i64 v.n, .string v.s, .int .i64 (q : Nat)] 29)).alloc (.cells #[.int .i64 v.k, .int .i64 v.n, .string v.s, .int .i64 (q : Nat)] 29)) := ((Below.refl _ _).alloc (Nat.le_refl _) _).alloc (by simp) _
    refine bodyPost_ret (v := vAgg ⟨v.k, v.n, v.s, (q : Nat)⟩) (by simp [results, Try.results83, go_sem]) rfl ⟨rfl, hb.drew.drew⟩
  · have hne : (v.k != 4) = true := by simpa using h4
    have hR : Hid (renum S v = v) := by show renum S v = v; unfold renum; rw [if_neg h4]
    rw [hR.out]
    go_enter Try.func83, Try.ntmps83
    go_wp2
    have hb : Below w.heap.size w ((w.alloc (.cells #[.int .i64 v.k, .int .i64 v.n, .string v.s, .int .i64 v.a] 29)).alloc (.cells #[.int .i64 v.k, .int .i64 v.n, .string v.s, .int .i64 v.a] 29)) := ((Below.refl _ _).alloc (Nat.le_refl _) _).alloc (by simp) _
    refine bodyPost_ret (v := vAgg v) (by simp [results, Try.results83, go_sem]) rfl ⟨rfl, hb⟩

/-- The canonical graph. -/
def cL (S : List Nat) (L : Nat → Nat) (i : Nat) : Nat := L (S.getD i 0)
def cK (S : List Nat) (K : Nat → Nat → V) (i : Nat) : Nat → V := K (S.getD i 0)
def cX (S : List Nat) (X : Nat → Nat → V) (i c : Nat) : V := renum S (X (S.getD i 0) c)

/-- A block that holds a graph. -/
def OutB (w : World) (B : Nat) (v : V) (tv : Value) : Prop := w.heap[B]? = some (.cells #[.int .i64 v.k, .int .i64 v.n, .string v.s, .int .i64 v.a, tv] 32 (0, 0))

theorem SpW.start {w0 w : World} {WB WH base n cp : Nat} {u : V} {ta : Option Addr} (h : w.heap[WB]? = some (.cells #[.int .i64 u.k, .int .i64 u.n, .string u.s, .int .i64 u.a, .slice ta n cp, .slice (some ⟨WH, 0, none⟩) n n, .slice none 0 0] 142 (0, 0))) (hr : w.rowIs WH 3 n (fun _ => .int .i64 (-1))) (hb : Below w0.heap.size w0 w) : SpW w0 w WB WH base u ta n cp (.slice none 0 0) [] [] :=
  ⟨h, hr.congr (fun i _ => by simp [whereIs]), World.ownsRow_nil _ _ _ _, hb⟩

/-- The graph that came in, and the empty answer. -/
structure CanW (w wr : World) (u : V) (ta : Option Addr) (n cp : Nat) : Prop where
  graph : OutB wr w.heap.size u (.slice ta n cp)
  res : OutB wr (w.heap.size + 1) zeroV (.slice none 0 0)
  bel : Below w.heap.size w wr
theorem CanW.only {w wr wr' : World} {u : V} {ta : Option Addr} {n cp : Nat} {P : Nat → Prop} (h : CanW w wr u ta n cp) (ho : Only P wr wr') (hP : ∀ k, P k → w.heap.size + 2 ≤ k) : CanW w wr' u ta n cp :=
  ⟨(ho.block _ (blk_lt h.graph) (fun x => by have := hP _ x; omega)).trans h.graph, (ho.block _ (blk_lt h.res) (fun x => by have := hP _ x; omega)).trans h.res, h.bel.trans (ho.toBelow (fun k x => by have := hP k x; omega) h.bel.size)⟩
theorem CanW.below {w wr wr' : World} {u : V} {ta : Option Addr} {n cp : Nat} (h : CanW w wr u ta n cp) (hb : Below wr.heap.size wr wr') : CanW w wr' u ta n cp := h.only (Only.below (P := fun _ => False) hb) (fun _ h => h.elim)

theorem set4_only {w : World} {B i j k l : Nat} {a' b' c' d' : Value} : Only (fun k => k = B) w ((((w.setCell ⟨B, i, none⟩ a').setCell ⟨B, j, none⟩ b').setCell ⟨B, k, none⟩ c').setCell ⟨B, l, none⟩ d') :=
  ((((Only.refl (fun k => k = B) w).set (p := ⟨B, i, none⟩) rfl a').set (p := ⟨B, j, none⟩) rfl b').set (p := ⟨B, k, none⟩) rfl c').set (p := ⟨B, l, none⟩) rfl d'

theorem alloc4 (w : World) (a b c d : Obj) : ((((w.alloc a).alloc b).alloc c).alloc d).heap[w.heap.size]? = some a ∧ ((((w.alloc a).alloc b).alloc c).alloc d).heap[w.heap.size + 1]? = some b ∧ ((((w.alloc a).alloc b).alloc c).alloc d).heap[w.heap.size + 2]? = some c ∧ ((((w.alloc a).alloc b).alloc c).alloc d).heap[w.heap.size + 3]? = some d ∧ ((((w.alloc a).alloc b).alloc c).alloc d).heap.size = w.heap.size + 4 ∧ Below w.heap.size w ((((w.alloc a).alloc b).alloc c).alloc d) := by
  obtain ⟨h0, h1, h2, hs, hb⟩ := alloc3 w a b c
  refine ⟨?_, ?_, ?_, ?_, ?_, hb.alloc hb.size _⟩
  · rw [Below.heap_alloc _ _ _ (by omega)]; exact h0
  · rw [Below.heap_alloc _ _ _ (by omega)]; exact h1
  · rw [Below.heap_alloc _ _ _ (by omega)]; exact h2
  · have := heap_alloc_new (((w.alloc a).alloc b).alloc c) d
    rw [hs] at this
    exact this
  · simp

set_option maxHeartbeats 2000000 in
set_option maxRecDepth 100000 in
/-- 'l2canon'. -/
theorem l2canon_any (u : V) (ta : Option Addr) (n cp TB TO : Nat) (A : Nat → Option Addr) (L C RB RO : Nat → Nat) (K X : Nat → Nat → V) (w : World) (HG : Hid (OkG n u L K X)) (HT : Hid (TabsAt w ta n TB TO A L C RB RO K X)) (S : List Nat) (HS : Hid (order n u L X = S)) :
    Calls Try.prog 55 #[.agg #[.int .i64 u.k, .int .i64 u.n, .string u.s, .int .i64 u.a, .slice ta n cp]] w fun e w' => (∃ (tv : Value) (PV : Nat → Value) (base : Nat), w.heap.size ≤ base ∧ e = .returned (.agg #[.int .i64 (renum S u).k, .int .i64 (renum S u).n, .string (renum S u).s, .int .i64 (renum S u).a, tv]) ∧ OTab w' base tv S.length PV (cL S L) (cK S K) (cX S X)) ∧ Below w.heap.size w w' := by
  have hn : n ≤ 200 := HG.out.len
  have hmk := run_make_n 51 3 _ 1 8 Try.underlying51 Try.infoN n (by omega) (by omega)
  go_enter Try.func55, Try.ntmps55
  go_wp2
  go_region
  all_goals (try go_wp2)
  clear hmk
  have A4 : Hid _ := alloc4 w (.cells #[.int .i64 u.k, .int .i64 u.n, .string u.s, .int .i64 u.a, .slice ta n cp] 32) (.cells #[.int .i64 0, .int .i64 0, .string ⟨#[]⟩, .int .i64 0, .slice none 0 0] 32) (.cells (madeCells #[.int .i64 0] n) 3) (.cells #[.int .i64 u.k, .int .i64 u.n, .string u.s, .int .i64 u.a, .slice ta n cp, .slice (some ⟨w.heap.size + 1 + 1, 0, none⟩) n n, .slice none 0 0] 142)
  obtain ⟨w1, hw1⟩ : ∃ w1, w1 = ((((w.alloc (.cells #[.int .i64 u.k, .int .i64 u.n, .string u.s, .int .i64 u.a, .slice ta n cp] 32)).alloc (.cells #[.int .i64 0, .int .i64 0, .string ⟨#[]⟩, .int .i64 0, .slice none 0 0] 32)).alloc (.cells (madeCells #[.int .i64 0] n) 3)).alloc (.cells #[.int .i64 u.k, .int .i64 u.n, .string u.s, .int .i64 u.a, .slice ta n cp, .slice (some ⟨w.heap.size + 1 + 1, 0, none⟩) n n, .slice none 0 0] 142)).drew := ⟨_, rfl⟩
  rw [← hw1]
  have HC1 : Hid (CanW w w1 u ta n cp) := by rw [hw1]; exact ⟨A4.out.1, A4.out.2.1, A4.out.2.2.2.2.2.drew⟩
  have HR1 : Hid (w1.rowIs (w.heap.size + 2) 3 n (fun _ => .int .i64 0)) := by
    rw [hw1]
    have := row_made ((w.alloc (.cells #[.int .i64 u.k, .int .i64 u.n, .string u.s, .int .i64 u.a, .slice ta n cp] 32)).alloc (.cells #[.int .i64 0, .int .i64 0, .string ⟨#[]⟩, .int .i64 0, .slice none 0 0] 32)) #[.int .i64 0] n 3
    rw [show ((w.alloc (.cells #[.int .i64 u.k, .int .i64 u.n, .string u.s, .int .i64 u.a, .slice ta n cp] 32)).alloc (.cells #[.int .i64 0, .int .i64 0, .string ⟨#[]⟩, .int .i64 0, .slice none 0 0] 32)).heap.size = w.heap.size + 2 by simp] at this
    exact ((this.alloc _).of_block rfl).congr (fun i _ => by simp [Nat.mod_one])
  have HB1 : Hid (w1.heap[w.heap.size + 3]? = some (.cells #[.int .i64 u.k, .int .i64 u.n, .string u.s, .int .i64 u.a, .slice ta n cp, .slice (some ⟨w.heap.size + 2, 0, none⟩) n n, .slice none 0 0] 142 (0, 0))) := by rw [hw1]; exact A4.out.2.2.2.1
  have Z1 : Hid (w1.heap.size = w.heap.size + 4) := by rw [hw1]; exact A4.out.2.2.2.2.1
  clear hw1 A4
  go_loopw [23] (fun ii wr => ∃ c : Nat, c ≤ n ∧ ii = .int .i64 c ∧ Hid (wr.rowIs (w.heap.size + 2) 3 n (fun i => if i < c then .int .i64 (-1) else .int .i64 0)) ∧ Hid (Only (fun k => k = w.heap.size + 2) w1 wr) ∧ Hid (wr.heap.size = w.heap.size + 4)) (fun ii _ => n - (intOf ii).toNat)
  case atStart => exact ⟨0, Nat.zero_le _, rfl, HR1.out.congr (fun i _ => by rw [if_neg (by omega)]), Only.refl _ _, Z1⟩
  case round =>
    obtain ⟨c, hc, rfl, HR, HO, HZ⟩ := hrel
    have HBr : Hid (wr.heap[w.heap.size + 3]? = some (.cells #[.int .i64 u.k, .int .i64 u.n, .string u.s, .int .i64 u.a, .slice ta n cp, .slice (some ⟨w.heap.size + 2, 0, none⟩) n n, .slice none 0 0] 142 (0, 0))) := (HO.out.block _ (blk_lt HB1.out) (by omega)).trans HB1.out
    obtain ⟨x4, x5, x6, x7⟩ := cells7 HBr.out
    by_cases hlt : c < n
    · have rc := HR.out.cell hlt
      have rz := HR.out.frozen c
      rw [if_neg (by omega)] at rc
      go_wp2
      go_roundw
      case rel =>
        refine ⟨c + 1, by omega, by go_num, (HR.out.set c _).congr (fun i _ => ?_), HO.out.set rfl _, show _ = _ by rw [← HZ.out]; simp [World.setCell]⟩
        by_cases e : i = c
        · subst e; rw [if_pos rfl, if_pos (by omega)]
        · rw [if_neg e]
          by_cases h' : i < c
          · rw [if_pos h', if_pos (by omega)]
          · rw [if_neg h', if_neg (by omega)]
      case measure => simp [intOf]; omega
    · obtain rfl : c = n := by omega
      clear HR1
      have hsr := HO.out.size
      have hz1 := Z1.out
      have HSB : Hid (SpB w (w.heap.size + 3) (w.heap.size + 2) (w.heap.size + 5)) := show SpB _ _ _ _ from ⟨by omega, by omega, by omega, by omega, by omega⟩
      have HCr : Hid (CanW w wr u ta c cp) := HC1.out.only HO.out (fun k hk => by omega)
      have HWr : Hid (SpW w wr (w.heap.size + 3) (w.heap.size + 2) (w.heap.size + 5) u ta c cp (.slice none 0 0) [] []) := SpW.start HBr.out (HR.out.congr (fun i hi => by rw [if_pos hi])) HCr.out.bel
      have hszr : wr.heap.size = w.heap.size + 4 := HZ.out
      obtain ⟨w2, hw2⟩ : ∃ w2, w2 = wr.alloc (.cells #[.int .i64 0, .int .i64 0, .string ⟨#[]⟩, .int .i64 0, .slice none 0 0] 32) := ⟨_, rfl⟩
      have hb2 : Below wr.heap.size wr w2 := by rw [hw2]; exact (Below.refl _ _).alloc (Nat.le_refl _) _
      have HC2 : Hid (CanW w w2 u ta c cp) := HCr.out.below hb2
      have HW2 : Hid (SpW w w2 (w.heap.size + 3) (w.heap.size + 2) (w.heap.size + 5) u ta c cp (.slice none 0 0) [] []) := HWr.out.below hb2
      have HO2 : Hid (OutB w2 (w.heap.size + 4) zeroV (.slice none 0 0)) := by rw [hw2, ← hszr]; exact heap_alloc_new _ _
      have hs2 : w2.heap.size = w.heap.size + 5 := by rw [hw2]; simp [hszr]
      have hcall := val_any u ta c cp TB TO A L C RB RO K X w (w.heap.size + 3) (w.heap.size + 2) (w.heap.size + 5) hn (show ∀ r, _ from fun r hr => (HG.out.all r hr).len) (good_of HG.out) HT HSB (c + 1) [] u w2 (.slice none 0 0) (Fit.nil c) HG.out.root (by simp) (by omega) HW2
      rw [show met L X (c + 1) [] u = S from HS.out] at hcall
      obtain ⟨g0, g1, g2, g3, g4, _⟩ := cells5 HCr.out.graph
      have lb : w.heap.size < wr.heap.size := by omega
      clear hb2 hsr HWr HCr HO HR HBr x4 x5 x6 x7
      go_wp2_with fail
      rw [← hw2]
      refine hcall.mono ?_
      clear hcall hw2 g0 g1 g2 g3 g4 lb
      rintro e w3 ⟨rfl, ord, hW3, hF3⟩
      have hs3 := hF3.only.size
      have HC3 : Hid (CanW w w3 u ta c cp) := HC2.out.only hF3.only (fun k hk => by rcases hk with rfl | rfl | h; omega; omega; simp [Value.ownBlock] at h)
      have HO3 : Hid (OutB w3 (w.heap.size + 4) zeroV (.slice none 0 0)) := hF3.blk HO2.out (by omega) (by omega) (by simp [Value.ownBlock])
      have HW3 : Hid (SpW w w3 (w.heap.size + 3) (w.heap.size + 2) (w.heap.size + 5) u ta c cp ord S S) := hW3
      clear hW3 hF3 HC2 HO2 HW2 HC1 HB1 HZ
      obtain ⟨ru, hru⟩ : ∃ ru, renum S u = ru := ⟨_, rfl⟩
      have HRU : Hid (renum S u = ru) := hru
      rw [hru]
      clear hru
      obtain ⟨w4, hw4⟩ : ∃ w4, w4 = (((w3.setCell ⟨w.heap.size + 4, 0, none⟩ (.int .i64 ru.k)).setCell ⟨w.heap.size + 4, 1, none⟩ (.int .i64 ru.n)).setCell ⟨w.heap.size + 4, 2, none⟩ (.string ru.s)).setCell ⟨w.heap.size + 4, 3, none⟩ (.int .i64 ru.a) := ⟨_, rfl⟩
      have ho4 : Only (fun k => k = w.heap.size + 4) w3 w4 := by rw [hw4]; exact set4_only
      have HO4 : Hid (OutB w4 (w.heap.size + 4) ru (.slice none 0 0)) := by rw [hw4]; exact put5lo HO3.out _ _ _ _
      have HC4 : Hid (CanW w w4 u ta c cp) := HC3.out.only ho4 (fun k hk => by omega)
      have HW4 : Hid (SpW w w4 (w.heap.size + 3) (w.heap.size + 2) (w.heap.size + 5) u ta c cp ord S S) := HW3.out.far ho4 (by omega) (by omega) (fun k hk hP => by obtain ⟨_, _, _, h⟩ := owns_form HW3.out.own; have := (h k hk).1; omega) (fun k hP => by omega)
      obtain ⟨c0, c1, c2, c3, c4, z0⟩ := cells5 HO3.out
      unfold vAgg
      go_wp2
      rw [← hw4]
      clear c0 c1 c2 c3 c4 z0 hw4 ho4 HO3 HW3 HC3
      have hw4s : w.heap.size + 5 ≤ w4.heap.size := by have := blk_lt HO4.out; omega
      obtain ⟨hSf, hScl, hSr⟩ := order_all HG.out
      rw [HS.out] at hSf hScl hSr
      have HSf : Hid (Fit c S) := hSf
      have HCl : Hid (∀ r ∈ S, ∀ j, j < L r → (X r j).k = 4 → (X r j).a.toNat ∈ S) := hScl
      have hSl : S.length ≤ 200 := Nat.le_trans hSf.len hn
      clear hSf hScl hSr hs2 hszr hs3
      obtain ⟨oa, oc, rfl, hok⟩ := owns_form HW4.out.own
      have HOK : Hid (∀ k, (Value.slice oa S.length oc).ownBlock = some k → w.heap.size + 5 ≤ k ∧ k < w4.heap.size) := hok
      clear hok
      go_loopw [6] (fun ii wr => ∃ (i : Nat) (tv : Value) (PV : Nat → Value), i ≤ S.length ∧ ii = .int .i64 i ∧ Hid (OutB wr (w.heap.size + 4) ru tv) ∧ Hid (OTab wr w4.heap.size tv i PV (cL S L) (cK S K) (cX S X)) ∧ Hid (Only (fun k => k = w.heap.size + 4) w4 wr)) (fun ii _ => S.length - (intOf ii).toNat)
      case atStart => exact ⟨0, _, fun _ => .nilIface, Nat.zero_le _, rfl, HO4, OTab.nil _ _ _ _ _ _, Only.refl _ _⟩
      case round =>
        obtain ⟨i, tv, PV, hi, rfl, HOr, HTr, HLr⟩ := hrel
        have HWr : Hid (SpW w wr (w.heap.size + 3) (w.heap.size + 2) (w.heap.size + 5) u ta c cp (.slice oa S.length oc) S S) := HW4.out.far HLr.out (by omega) (by omega) (fun k hk hP => by have := (HOK.out k hk).1; omega) (fun k hP => by omega)
        have HCr : Hid (CanW w wr u ta c cp) := HC4.out.only HLr.out (fun k hk => by omega)
        obtain ⟨x4, x5, x6, x7⟩ := cells7 HWr.out.blk
        have hsr := HLr.out.size
        by_cases hlt : i < S.length
        · obtain ⟨s, hs⟩ : ∃ s, S[i]? = some s := ⟨S[i], by simp [hlt]⟩
          have hsS : s ∈ S := List.mem_of_getElem? hs
          have hsn : s < c := HSf.out.lt s hsS
          have HD : Hid (S.getD i 0 = s) := by show _ = _; simp [hs]
          obtain ⟨og, oc', he, hog⟩ := owns_cell HWr.out.own (k := i) (y := .int .i64 (s : Nat)) (by simp [natCells, hs])
          cases he
          obtain ⟨g0, g1, g2, g3, g4, _⟩ := cells5 HCr.out.graph
          have hta := HT.out.top (by omega)
          subst hta
          have HTw : Hid (TabsAt wr (some ⟨TB, TO, none⟩) c TB TO A L C RB RO K X) := HT.out.below HCr.out.bel
          have t0 := HTw.out.tab s hsn
          obtain ⟨pa, hpa⟩ : ∃ a, A s = a := ⟨_, rfl⟩
          rw [hpa] at t0
          have HP : Hid (PairsAt w pa (L s) (RB s) (RO s) (K s) (X s)) := hpa ▸ HT.out.row s hsn
          have l1 : w.heap.size < wr.heap.size := by omega
          have l2 : w.heap.size + 1 + 1 + 1 < wr.heap.size := by omega
          have l3 : og < wr.heap.size := by have := World.block_lt_of_cell? _ _ hog; simpa using this
          have l4 : TB < wr.heap.size := by have := World.block_lt_of_cell? _ _ t0; simpa using this
          have hbi : (0 : Int) ≤ (i : Int) ∧ (i : Int) < (S.length : Int) := by omega
          have hbs : (0 : Int) ≤ (s : Int) ∧ (s : Int) < (c : Int) := by omega
          have hLs : L s ≤ 100 := (HG.out.all s hsn).len
          have x6' : wr.cell? ⟨w.heap.size + 1 + 1 + 1, 6, none⟩ = some (.slice (some ⟨og, 0, none⟩) S.length oc) := x6
          go_wp2
          go_region
          all_goals (try go_wp2)
          clear x4 x5 x6 x6' x7 hog g0 g1 g2 g3 g4 t0 HTw hpa l3 l4 hbi hbs hs
          obtain ⟨tb, htb⟩ : ∃ tb, wr.heap.size = tb := ⟨_, rfl⟩
          obtain ⟨wt, hwt⟩ : ∃ wt, wt = (wr.alloc (.cells #[.slice none 0 0] 61)).drew := ⟨_, rfl⟩
          rw [← hwt, htb]
          have hbt : Below wr.heap.size wr wt := by rw [hwt]; exact ((Below.refl _ _).alloc (Nat.le_refl _) _).drew
          have TB0 : Hid (wt.heap[tb]? = some (.cells #[.slice none 0 0] 61 (0, 0))) := by rw [hwt, ← htb]; exact heap_alloc_new wr (.cells #[.slice none 0 0] 61)
          have hst : wt.heap.size = tb + 1 := by rw [hwt, ← htb]; exact (by simp : (wr.alloc (.cells #[.slice none 0 0] 61)).heap.size = wr.heap.size + 1)
          have HWt : Hid (SpW w wt (w.heap.size + 3) (w.heap.size + 2) (w.heap.size + 5) u (some ⟨TB, TO, none⟩) c cp (.slice (some ⟨og, 0, none⟩) S.length oc) S S) := HWr.out.below hbt
          have HTt : Hid (OTab wt w4.heap.size tv i PV (cL S L) (cK S K) (cX S X)) := HTr.out.below hbt
          have HOt : Hid (OutB wt (w.heap.size + 4) ru tv) := blkB HOr.out hbt
          have HLt : Hid (Only (fun k => k = w.heap.size + 4) w4 wt) := HLr.out.trans (Only.below hbt)
          have HN1 : Hid (∀ g, tv.ownBlock = some g → g < tb) := show ∀ g, _ from fun g hg => by obtain ⟨_, _, _, h⟩ := owns_form HTr.out.own; have := (h g hg).2; omega
          have HN2 : Hid (∀ j, j < i → ∀ g, (PV j).ownBlock = some g → g < tb) := show ∀ j, _ from fun j hj g hg => by obtain ⟨_, _, _, h⟩ := owns_form (HTr.out.rows j hj); have := (h g hg).2; omega
          clear hwt hbt HWr HTr HOr HLr HCr
          have hogb : og < w4.heap.size := (HOK.out og rfl).2
          obtain ⟨ip, hpi, hp0, hp1, hp2⟩ := info_parts Try.info63
          obtain ⟨it, hti, ht0, ht1, ht2⟩ := info_parts Try.info61
          go_loopw [60] (fun jj wq => ∃ (j : Nat) (pv : Value), j ≤ L s ∧ jj = .int .i64 j ∧ Hid (wq.heap[tb]? = some (.cells #[pv] 61 (0, 0))) ∧ Hid (wq.ownsRow (tb + 1) 63 8 pv j (pairCells (K s) (fun c => renum S (X s c)) j)) ∧ Hid (Only (fun k => k = tb) wt wq)) (fun jj _ => L s - (intOf jj).toNat)
          case atStart => exact ⟨0, _, Nat.zero_le _, rfl, TB0, World.ownsRow_nil _ _ _ _, Only.refl _ _⟩
          case round =>
            obtain ⟨j, pv, hj, rfl, HTb, HOw, HLq⟩ := hrel
            have hsq := HLq.out.size
            have HWq : Hid (SpW w wr (w.heap.size + 3) (w.heap.size + 2) (w.heap.size + 5) u (some ⟨TB, TO, none⟩) c cp (.slice (some ⟨og, 0, none⟩) S.length oc) S S) := HWt.out.far HLq.out (by omega) (by omega) (fun k hk hP => by have := (HOK.out k hk).2; omega) (fun k hP => by omega)
            by_cases hjl : j < L s
            · obtain rfl := HP.out.top (by omega)
              obtain ⟨⟨k0, k1, k2, k3⟩, ⟨v0, v1, v2, v3⟩⟩ := (HP.out.below HWq.out.bel).cells hjl
              obtain ⟨pa', pc', rfl, _⟩ := owns_form HOw.out
              obtain ⟨wp, hwp⟩ : ∃ wp, wp = wr.alloc (.cells #[.int .i64 (K s j).k, .int .i64 (K s j).n, .string (K s j).s, .int .i64 (K s j).a, .int .i64 (X s j).k, .int .i64 (X s j).n, .string (X s j).s, .int .i64 (X s j).a] 63) := ⟨_, rfl⟩
              have hbp : Below wr.heap.size wr wp := by rw [hwp]; exact (Below.refl _ _).alloc (Nat.le_refl _) _
              have HPb : Hid (wp.heap[wr.heap.size]? = some (.cells #[.int .i64 (K s j).k, .int .i64 (K s j).n, .string (K s j).s, .int .i64 (K s j).a, .int .i64 (X s j).k, .int .i64 (X s j).n, .string (X s j).s, .int .i64 (X s j).a] 63 (0, 0))) := by rw [hwp]; exact heap_alloc_new _ _
              have hcall := val_old u (some ⟨TB, TO, none⟩) c cp w (w.heap.size + 3) (w.heap.size + 2) (w.heap.size + 5) S (X s j) wp _ (good_of HG.out s hsn j hjl) (HCl.out s hsS j hjl) (HWq.out.below hbp)
              obtain ⟨y, HY⟩ : ∃ y, Hid (renum S (X s j) = y) := ⟨_, rfl⟩
              rw [HY.out] at hcall
              have HTp : Hid (wp.heap[tb]? = some (.cells #[.slice pa' j pc'] 61 (0, 0))) := blkB HTb.out hbp
              have HLp : Hid (Only (fun k => k = tb) wt wp) := HLq.out.trans (Only.below hbp)
              have HOp : Hid (wp.ownsRow (tb + 1) 63 8 (.slice pa' j pc') j (pairCells (K s) (fun c => renum S (X s c)) j)) := (Only.below (P := fun _ => False) hbp).owns HOw.out (fun _ _ _ h => h)
              clear hbp HTb HLq HOw HWq
              obtain ⟨qb, hqb⟩ : ∃ qb, wr.heap.size = qb := ⟨_, rfl⟩
              go_wp2_with fail
              rw [← hwp]
              refine hcall.mono ?_
              clear hcall hwp k0 k1 k2 k3 v0 v1 v2 v3
              rintro e w5 ⟨rfl, hb5⟩
              have HP5 : Hid (w5.heap[wr.heap.size]? = some (.cells #[.int .i64 (K s j).k, .int .i64 (K s j).n, .string (K s j).s, .int .i64 (K s j).a, .int .i64 (X s j).k, .int .i64 (X s j).n, .string (X s j).s, .int .i64 (X s j).a] 63 (0, 0))) := blkB HPb.out hb5
              have HT5 : Hid (w5.heap[tb]? = some (.cells #[.slice pa' j pc'] 61 (0, 0))) := blkB HTp.out hb5
              have HL5 : Hid (Only (fun k => k = tb) wt w5) := HLp.out.trans (Only.below hb5)
              have HO5 : Hid (w5.ownsRow (tb + 1) 63 8 (.slice pa' j pc') j (pairCells (K s) (fun c => renum S (X s c)) j)) := (Only.below (P := fun _ => False) hb5).owns HOp.out (fun _ _ _ h => h)
              clear hb5 HPb HTp HLp HOp
              obtain ⟨y0, y1⟩ := one_at HT5.out
              have hkc : w5.cell? ⟨wr.heap.size, 0, none⟩ = some (.int .i64 (K s j).k) ∧ w5.cell? ⟨wr.heap.size, 1, none⟩ = some (.int .i64 (K s j).n) ∧ w5.cell? ⟨wr.heap.size, 2, none⟩ = some (.string (K s j).s) ∧ w5.cell? ⟨wr.heap.size, 3, none⟩ = some (.int .i64 (K s j).a) := by
                refine ⟨?_, ?_, ?_, ?_⟩ <;> simp [World.cell?, HP5.out]
              obtain ⟨k0, k1, k2, k3⟩ := hkc
              have l5 : wr.heap.size < w5.heap.size := blk_lt HP5.out
              have l6 : tb < w5.heap.size := blk_lt HT5.out
              rw [hqb] at k0 k1 k2 k3 l5
              unfold vAgg
              go_wp2_with (at_builtin; refine wpList_append_lies _ (by rfl) (.tmp 69) (.tmp 74) 59 (by rfl) (tb + 1) 63 ip (.agg #[.int .i64 0, .int .i64 0, .string ⟨#[]⟩, .int .i64 0, .int .i64 0, .int .i64 0, .string ⟨#[]⟩, .int .i64 0]) 8 80 Try.underlying59 hpi hp0 hp1 hp2 (by rfl) (by omega) (.slice pa' j pc') j (pairCells (K s) (fun c => renum S (X s c)) j) (by rfl) ((HO5.out.alloc _).alloc _) ⟨w5.heap.size + 1, 0, none⟩ 1 1 [.int .i64 (K s j).k, .int .i64 (K s j).n, .string (K s j).s, .int .i64 (K s j).a, .int .i64 y.k, .int .i64 y.n, .string y.s, .int .i64 y.a] (by rfl) (by rfl) ?c1 ?c2 (by omega) ?c3 ?c4 ?c5 (w5.heap.size + 2) ?c6 ?_)
              case c1 => exact World.news_of_block (alloc2 w5 _ _).2.1
              case c2 => intro u hu; simp at hu; rcases hu with rfl | rfl | rfl | rfl | rfl | rfl | rfl | rfl <;> rfl
              case c3 => unfold maxLen; omega
              case c4 => omega
              case c5 => simp; omega
              case c6 => simp
              intro g cap w6 hown6 hgrow6 hat6 hlt6
              have hb6 : Below (tb + 1) ((w5.alloc (.cells #[.int .i64 y.k, .int .i64 y.n, .string y.s, .int .i64 y.a] 29)).alloc (.cells #[.int .i64 (K s j).k, .int .i64 (K s j).n, .string (K s j).s, .int .i64 (K s j).a, .int .i64 y.k, .int .i64 y.n, .string y.s, .int .i64 y.a] 63)) w6 := below_grown ((HO5.out.alloc _).alloc _) hgrow6 (by simp; omega)
              have hba : Below w5.heap.size w5 ((w5.alloc (.cells #[.int .i64 y.k, .int .i64 y.n, .string y.s, .int .i64 y.a] 29)).alloc (.cells #[.int .i64 (K s j).k, .int .i64 (K s j).n, .string (K s j).s, .int .i64 (K s j).a, .int .i64 y.k, .int .i64 y.n, .string y.s, .int .i64 y.a] 63)) := (alloc2 w5 _ _).2.2.2
              have HT6 : Hid (w6.heap[tb]? = some (.cells #[.slice pa' j pc'] 61 (0, 0))) := (hb6.block tb (by omega)).trans (blkB HT5.out hba)
              have HL6 : Hid (Only (fun k => k = tb) wt w6) := (HL5.out.trans (Only.below hba)).thenBelow hb6 (by omega)
              have HO6 : Hid (w6.ownsRow (tb + 1) 63 8 (.slice (some ⟨g, 0, none⟩) (j + 1) cap) (j + 1) (pairCells (K s) (fun c => renum S (X s c)) (j + 1))) := by
                show World.ownsRow _ _ _ _ _ _ _
                rw [pairCells_succ]
                simp only [HY.out]
                exact hown6
              obtain ⟨_, _, hf6, hg6⟩ := owns_form HO6.out
              have hgt := (hg6 g rfl).1
              clear hown6 hgrow6 hat6 hlt6 hb6 hba HT5 HL5 HO5 HP5 y0 y1 k0 k1 k2 k3 hf6 hg6
              obtain ⟨y0, y1⟩ := one_at HT6.out
              go_wp2
              go_roundw
              case rel =>
                refine ⟨j + 1, .slice (some ⟨g, 0, none⟩) (j + 1) cap, by omega, by go_num, ?_, ?_, HL6.out.set rfl _⟩
                · have h6 := HT6.out
                  show _ = _
                  simp [World.setCell, Array.getElem?_modify, h6]
                · exact ownsRow_setCell_other (a := ⟨tb, 0, none⟩) HO6.out (by simp only [Value.ownBlock, ne_eq, Option.some.injEq]; omega) _
              case measure => simp [intOf]; omega
            · obtain rfl : j = L s := by omega
              obtain ⟨pa', pc', rfl, hpo⟩ := owns_form HOw.out
              obtain ⟨ta', tc', rfl, _⟩ := owns_form HTt.out.own
              have HTq : Hid (OTab wr w4.heap.size (.slice ta' i tc') i PV (cL S L) (cK S K) (cX S X)) := HTt.out.onlyB HLq.out (fun g hg e => by have := HN1.out g hg; omega) (fun j hj g hg e => by have := HN2.out j hj g hg; omega)
              have HOq : Hid (OutB wr (w.heap.size + 4) ru (.slice ta' i tc')) := (HLq.out.block _ (blk_lt HOt.out) (by omega)).trans HOt.out
              have HLw : Hid (Only (fun k => k = w.heap.size + 4) w4 wr) := HLt.out.thenBelow (HLq.out.toBelow (base := w4.heap.size) (fun k hk => by omega) (by omega)) (Nat.le_refl _)
              obtain ⟨c0, c1, c2, c3, c4, z0⟩ := cells5 HOq.out
              obtain ⟨y0, y1⟩ := one_at HTb.out
              have l6 : tb < wr.heap.size := blk_lt HTb.out
              have l7 : w.heap.size + 4 < wr.heap.size := blk_lt HOq.out
              go_wp2_with (at_builtin; refine wpList_append_lies _ (by rfl) (.tmp 79) (.tmp 81) 30 (by rfl) w4.heap.size 61 it (.agg #[.slice none 0 0]) 1 24 Try.underlying30 hti ht0 ht1 ht2 (by rfl) (by omega) (.slice ta' i tc') i ((List.range i).map PV) (by rfl) (HTq.out.own.alloc _) ⟨wr.heap.size, 0, none⟩ 1 1 [.slice pa' (L s) pc'] (by rfl) (by rfl) ?c1 ?c2 (by omega) ?c3 ?c4 ?c5 (wr.heap.size + 1) ?c6 ?_)
              case c1 => exact World.news_of_block (heap_alloc_new wr _)
              case c2 => intro u hu; simp at hu; subst hu; rfl
              case c3 => unfold maxLen; omega
              case c4 => omega
              case c5 => simp; omega
              case c6 => simp
              intro g cap w7 hown7 hgrow7 hat7 hlt7
              obtain ⟨hT7, hB7⟩ := HTq.out.more (owns_mono HOw.out (by omega)) (fun j hj g hg e => by have := HN2.out j hj g hg; have := (hpo g e).1; omega) _ (by omega) hown7 hgrow7
              have HT7 : Hid (OTab w7 w4.heap.size (.slice (some ⟨g, 0, none⟩) (i + 1) cap) (i + 1) (fun j => if j = i then .slice pa' (L s) pc' else PV j) (cL S L) (cK S K) (cX S X)) := hT7.congr (fun j hj => by
                  by_cases e : j = i
                  · subst e; simp only [if_true, cL]; rw [HD.out]
                  · simp only [e, if_false]) (fun j hj c' hc' => by
                  by_cases e : j = i
                  · subst e
                    show (if j = j then K s else cK S K j) c' = cK S K j c' ∧ (if j = j then (fun c => renum S (X s c)) else cX S X j) c' = cX S X j c'
                    rw [if_pos rfl, if_pos rfl]
                    unfold cK cX
                    rw [HD.out]
                    exact ⟨rfl, rfl⟩
                  · show (if j = i then K s else cK S K j) c' = cK S K j c' ∧ (if j = i then (fun c => renum S (X s c)) else cX S X j) c' = cX S X j c'
                    rw [if_neg e, if_neg e]
                    exact ⟨rfl, rfl⟩)
              have HO7 : Hid (OutB w7 (w.heap.size + 4) ru (.slice ta' i tc')) := (hB7.block _ (by omega)).trans HOq.out
              have HL7 : Hid (Only (fun k => k = w.heap.size + 4) w4 w7) := HLw.out.thenBelow hB7 (Nat.le_refl _)
              clear hT7 hB7 hown7 hgrow7 hat7 hlt7 HTq HOq HLw c0 c1 c2 c3 c4 z0 y0 y1 HTb HOw HLq hpo
              obtain ⟨c0, c1, c2, c3, c4, z0⟩ := cells5 HO7.out
              go_wp2
              go_roundw
              case rel =>
                refine ⟨i + 1, .slice (some ⟨g, 0, none⟩) (i + 1) cap, _, by omega, by go_num, put5hi HO7.out _, HT7.out.only ((Only.refl (fun k => k = w.heap.size + 4) w7).set (p := ⟨w.heap.size + 4, 4, none⟩) rfl _) (fun k hk e => by omega), HL7.out.set rfl _⟩
              case measure => simp [intOf]; omega
        · obtain rfl : i = S.length := by omega
          obtain ⟨ta', tc', rfl, _⟩ := owns_form HTr.out.own
          have x6' : wr.cell? ⟨w.heap.size + 1 + 1 + 1, 6, none⟩ = some (.slice oa S.length oc) := x6
          obtain ⟨c0, c1, c2, c3, c4, z0⟩ := cells5 HOr.out
          obtain ⟨r0, r1, r2, r3, r4, r5⟩ := cells5 HCr.out.res
          simp only [zeroV] at r0 r1 r2 r3
          go_wp2
          have F := put5hi (put5lo HCr.out.res (.int .i64 ru.k) (.int .i64 ru.n) (.string ru.s) (.int .i64 ru.a)) (.slice ta' S.length tc')
          obtain ⟨wf, hwf⟩ : ∃ wf, wf = ((((wr.setCell ⟨w.heap.size + 1, 0, none⟩ (.int .i64 ru.k)).setCell ⟨w.heap.size + 1, 1, none⟩ (.int .i64 ru.n)).setCell ⟨w.heap.size + 1, 2, none⟩ (.string ru.s)).setCell ⟨w.heap.size + 1, 3, none⟩ (.int .i64 ru.a)).setCell ⟨w.heap.size + 1, 4, none⟩ (.slice ta' S.length tc') := ⟨_, rfl⟩
          have ho : Only (fun k => k = w.heap.size + 1) wr wf := by rw [hwf]; exact set4_only.set (p := ⟨w.heap.size + 1, 4, none⟩) rfl _
          rw [← hwf] at F ⊢
          clear hwf
          obtain ⟨q0, q1, q2, q3, q4, _⟩ := cells5 F
          refine bodyPost_ret (v := .agg #[.int .i64 ru.k, .int .i64 ru.n, .string ru.s, .int .i64 ru.a, .slice ta' S.length tc']) (by simp [results, Try.results55, go_sem, q0, q1, q2, q3, q4]) rfl ⟨⟨_, PV, w4.heap.size, by omega, by rw [HRU.out], HTr.out.only ho (fun k hk e => by omega)⟩, HCr.out.bel.trans (ho.toBelow (fun k hk => by omega) (by omega))⟩

end Go.Proofs.Ytgflalfiopnmnab

namespace Go.Proofs.Ytgflalfiopnmnab
open Go.RowKit Vl

/-- What 'Canon' answers: the canonical graph, or the empty one. -/
def CanonIs (w w' : World) (e : Ending) (n : Nat) (u : V) (L : Nat → Nat) (K X : Nat → Nat → V) : Prop :=
  (OkG n u L K X ∧ ∃ (tv : Value) (PV : Nat → Value) (base : Nat), w.heap.size ≤ base ∧ e = .returned (.agg #[.int .i64 (renum (order n u L X) u).k, .int .i64 (renum (order n u L X) u).n, .string (renum (order n u L X) u).s, .int .i64 (renum (order n u L X) u).a, tv]) ∧ OTab w' base tv (order n u L X).length PV (cL (order n u L X) L) (cK (order n u L X) K) (cX (order n u L X) X)) ∨
  (¬ OkG n u L K X ∧ e = .returned (.agg #[.int .i64 0, .int .i64 0, .string ⟨#[]⟩, .int .i64 0, .slice none 0 0]))

set_option maxHeartbeats 1000000 in
set_option maxRecDepth 100000 in
/-- 'spec.Canon'. -/
theorem specCanon_any (u : V) (ta : Option Addr) (n cp TB TO : Nat) (A : Nat → Option Addr) (L C RB RO : Nat → Nat) (K X : Nat → Nat → V) (w : World) (hn : n ≤ 1048576) (HS : Hid (Small 1048576 n L K X)) (HT : Hid (TabsAt w ta n TB TO A L C RB RO K X)) :
    Calls Try.prog 20 #[.agg #[.int .i64 u.k, .int .i64 u.n, .string u.s, .int .i64 u.a, .slice ta n cp]] w fun e w' => CanonIs w w' e n u L K X ∧ Below w.heap.size w w' := by
  have A2 : Hid _ := alloc2 w (.cells #[.int .i64 u.k, .int .i64 u.n, .string u.s, .int .i64 u.a, .slice ta n cp] 32) (.cells #[.int .i64 0, .int .i64 0, .string ⟨#[]⟩, .int .i64 0, .slice none 0 0] 32)
  obtain ⟨w0, hw0⟩ : ∃ w0, w0 = (w.alloc (.cells #[.int .i64 u.k, .int .i64 u.n, .string u.s, .int .i64 u.a, .slice ta n cp] 32)).alloc (.cells #[.int .i64 0, .int .i64 0, .string ⟨#[]⟩, .int .i64 0, .slice none 0 0] 32) := ⟨_, rfl⟩
  have H0 : Hid (CanW w w0 u ta n cp) := by rw [hw0]; exact ⟨A2.out.1, A2.out.2.1, A2.out.2.2.2⟩
  clear A2
  have hsp := specOk_any u ta n cp TB TO A L C RB RO K X w0 hn HS (HT.out.below H0.out.bel)
  go_enter Try.func20, Try.ntmps20
  go_wp2_with fail
  rw [← hw0]
  refine hsp.mono ?_
  clear hsp hw0
  rintro e w1 ⟨⟨bs, rfl, hbs⟩, hb1⟩
  have H1 : Hid (CanW w w1 u ta n cp) := H0.out.below hb1
  clear hb1 H0
  cases bs
  · have HN : Hid (¬ OkG n u L K X) := show ¬ OkG n u L K X from fun h => by have := hbs.2 h; cases this
    clear hbs
    obtain ⟨r0, r1, r2, r3, r4, r5⟩ := cells5 H1.out.res
    simp only [zeroV] at r0 r1 r2 r3
    go_wp2
    have F := put5hi (put5lo H1.out.res (.int .i64 0) (.int .i64 0) (.string ⟨#[]⟩) (.int .i64 0)) (.slice none 0 0)
    obtain ⟨q0, q1, q2, q3, q4, _⟩ := cells5 F
    refine bodyPost_ret (v := .agg #[.int .i64 0, .int .i64 0, .string ⟨#[]⟩, .int .i64 0, .slice none 0 0]) (by simp [results, Try.results20, go_sem, q0, q1, q2, q3, q4]) rfl ⟨Or.inr ⟨HN.out, rfl⟩, ?_⟩
    exact (H1.out.bel.trans (set4_below.mono (by omega))).setCell (by show w.heap.size ≤ w.heap.size + 1; omega) _
  · have HG : Hid (OkG n u L K X) := hbs.1 rfl
    clear hbs
    obtain ⟨g0, g1, g2, g3, g4, _⟩ := cells5 H1.out.graph
    obtain ⟨S, HSo⟩ : ∃ S, Hid (order n u L X = S) := ⟨_, rfl⟩
    have hcan := l2canon_any u ta n cp TB TO A L C RB RO K X w1 HG (HT.out.below H1.out.bel) S HSo
    obtain ⟨ru, HRU⟩ : ∃ ru, Hid (renum S u = ru) := ⟨_, rfl⟩
    rw [HRU.out] at hcan
    go_wp2_with fail
    refine hcan.mono ?_
    clear hcan g0 g1 g2 g3 g4
    rintro e w2 ⟨⟨tv, PV, base, hbase, rfl, hT⟩, hb2⟩
    have H2 : Hid (CanW w w2 u ta n cp) := H1.out.below hb2
    have HO : Hid (OTab w2 base tv S.length PV (cL S L) (cK S K) (cX S X)) := hT
    have hs1 : w.heap.size + 1 < w1.heap.size := blk_lt H1.out.res
    clear hb2 H1 hT
    obtain ⟨ta', tc', rfl, _⟩ := owns_form HO.out.own
    obtain ⟨r0, r1, r2, r3, r4, r5⟩ := cells5 H2.out.res
    simp only [zeroV] at r0 r1 r2 r3
    go_wp2
    have F := put5hi (put5lo H2.out.res (.int .i64 ru.k) (.int .i64 ru.n) (.string ru.s) (.int .i64 ru.a)) (.slice ta' S.length tc')
    obtain ⟨wf, hwf⟩ : ∃ wf, wf = ((((w2.setCell ⟨w.heap.size + 1, 0, none⟩ (.int .i64 ru.k)).setCell ⟨w.heap.size + 1, 1, none⟩ (.int .i64 ru.n)).setCell ⟨w.heap.size + 1, 2, none⟩ (.string ru.s)).setCell ⟨w.heap.size + 1, 3, none⟩ (.int .i64 ru.a)).setCell ⟨w.heap.size + 1, 4, none⟩ (.slice ta' S.length tc') := ⟨_, rfl⟩
    have ho : Only (fun k => k = w.heap.size + 1) w2 wf := by rw [hwf]; exact set4_only.set (p := ⟨w.heap.size + 1, 4, none⟩) rfl _
    rw [← hwf] at F ⊢
    clear hwf
    obtain ⟨q0, q1, q2, q3, q4, _⟩ := cells5 F
    refine bodyPost_ret (v := .agg #[.int .i64 ru.k, .int .i64 ru.n, .string ru.s, .int .i64 ru.a, .slice ta' S.length tc']) (by simp [results, Try.results20, go_sem, q0, q1, q2, q3, q4]) rfl ⟨Or.inl ⟨HG.out, ?_⟩, H2.out.bel.trans (ho.toBelow (fun k hk => by omega) (by have := H2.out.bel.size; omega))⟩
    rw [HSo.out, HRU.out]
    exact ⟨_, PV, base, by omega, rfl, HO.out.only ho (fun k hk e => by omega)⟩

end Go.Proofs.Ytgflalfiopnmnab

namespace Go.Proofs.Ytgflalfiopnmnab
open Go.RowKit Vl

theorem seen_keyed : Keyed 145 92 151 ptr IsB (fun a b => a == b) (.agg #[]) where
  und := Try.underlying145
  eq := fun u v w hu hv => eq_ptr u v w hu hv 9999
  chk := fun em v w => by kernel_rfl
  now := ⟨_, Try.underlying92, fun u v => rfl⟩
  zero := fun w => by kernel_rfl

end Go.Proofs.Ytgflalfiopnmnab



/-
  Keys in their order. No Go in sight.
-/
namespace Go.Proofs.Ytgflalfiopnmnab
open Go Vl

theorem bl_trans : ∀ x y z : List UInt8, Op.bytesLess x y = true → Op.bytesLess y z = true → Op.bytesLess x z = true
  | [], [], _, h, _ => by simp [Op.bytesLess] at h
  | [], _ :: _, [], _, h => by simp [Op.bytesLess] at h
  | [], _ :: _, _ :: _, _, _ => by simp [Op.bytesLess]
  | _ :: _, [], _, h, _ => by simp [Op.bytesLess] at h
  | _ :: _, _ :: _, [], _, h => by simp [Op.bytesLess] at h
  | a :: x, b :: y, c :: z, h, k => by
    simp only [Op.bytesLess, Bool.or_eq_true, decide_eq_true_eq, Bool.and_eq_true, beq_iff_eq] at h k ⊢
    rcases h with h | ⟨rfl, h⟩
    · rcases k with k | ⟨rfl, _⟩
      · exact Or.inl (UInt8.lt_trans h k)
      · exact Or.inl h
    · rcases k with k | ⟨rfl, k⟩
      · exact Or.inl k
      · exact Or.inr ⟨rfl, bl_trans x y z h k⟩
theorem bl_ntrans {x y z : List UInt8} (h : Op.bytesLess x y = false) (k : Op.bytesLess y z = false) : Op.bytesLess x z = false := by
  cases hz : Op.bytesLess x z
  · rfl
  · exfalso
    have ht := bl_total x y
    rw [h] at ht
    by_cases e : x = y
    · subst e; rw [hz] at k; cases k
    · have : (x == y) = false := by simpa using e
      rw [this] at ht
      have hyx : Op.bytesLess y x = true := by rw [← ht]; rfl
      have := bl_trans y x z hyx hz
      rw [this] at k
      cases k

theorem le_trans {a b c : V} (h : less b a = false) (k : less c b = false) : less c a = false := by
  unfold less at *
  by_cases h1 : b.k = a.k
  · rw [if_pos h1] at h
    by_cases h2 : c.k = b.k
    · rw [if_pos h2] at k
      rw [if_pos (h2.trans h1)]
      by_cases h3 : b.k = 3
      · rw [if_pos h3] at h
        rw [if_pos (by omega)] at k ⊢
        exact bl_ntrans k h
      · rw [if_neg h3] at h
        rw [if_neg (by omega)] at k ⊢
        simp at h k ⊢
        omega
    · rw [if_neg h2] at k
      rw [if_neg (by omega)]
      simp at k ⊢
      omega
  · rw [if_neg h1] at h
    by_cases h2 : c.k = b.k
    · rw [if_neg (by omega)]
      simp at h ⊢
      omega
    · rw [if_neg h2] at k
      simp at h k
      by_cases h3 : c.k = a.k
      · omega
      · rw [if_neg h3]
        simp
        omega

/-- Two keys, neither of which comes ahead, are one. -/
theorem key_one {a b : V} (ha : isK a = true) (hb : isK b = true) (h : less a b = false) (k : less b a = false) : a = b := by
  have hk : ko a b = 0 := by unfold ko; simp [ha, hb, h, k]
  have h2 : ko a b ≠ 2 := by omega
  have := ko_zero h2
  rw [hk] at this
  exact eqV_iff.1 (by rw [← this]; rfl)

/-- Places in the order of their keys. -/
def SortW (K : Nat → V) (ls : List Nat) : Prop := ls.Pairwise fun a b => less (K b) (K a) = false

theorem SortW.ins {K : Nat → V} {A B : List Nat} {x : Nat} (h : SortW K (A ++ B)) (hB : ∀ y ∈ B, less (K x) (K y) = true) (hA : ∀ y, A.getLast? = some y → less (K x) (K y) = false) : SortW K (A ++ x :: B) := by
  obtain ⟨h1, h2, h3⟩ := List.pairwise_append.1 h
  refine List.pairwise_append.2 ⟨h1, List.pairwise_cons.2 ⟨fun y hy => less_asymm (hB y hy), h2⟩, fun a ha b hb => ?_⟩
  rcases List.mem_cons.1 hb with rfl | hb
  · obtain ⟨A', y, rfl⟩ : ∃ A' y, A = A' ++ [y] := by
      rcases List.eq_nil_or_concat A with rfl | ⟨A', y, rfl⟩
      · cases ha
      · exact ⟨A', y, by simp⟩
    have hl := hA y (by simp)
    rcases List.mem_append.1 ha with ha' | ha'
    · exact le_trans ((List.pairwise_append.1 h1).2.2 a ha' y (by simp)) hl
    · simp at ha'; subst ha'; exact hl
  · exact h3 a ha b hb

/-- Sorted places of keys that are each once are one row. -/
theorem sort_one {K : Nat → V} : ∀ {ls ms : List Nat}, (∀ a ∈ ls, ∀ b ∈ ls, less (K a) (K b) = false → less (K b) (K a) = false → a = b) → ls.Perm ms → SortW K ls → SortW K ms → ls = ms
  | [], ms, _, hp, _, _ => by
    have := hp.length_eq
    cases ms with
    | nil => rfl
    | cons => simp at this
  | a :: ls, [], _, hp, _, _ => by have := hp.length_eq; simp at this
  | a :: ls, b :: ms, hd, hp, h1, h2 => by
    obtain ⟨p1, p2⟩ := List.pairwise_cons.1 h1
    obtain ⟨q1, q2⟩ := List.pairwise_cons.1 h2
    have e : a = b := by
      by_cases e : a = b
      · exact e
      · have ha : a ∈ ms := by
          have : a ∈ b :: ms := hp.subset (by simp)
          rcases List.mem_cons.1 this with h | h
          · exact absurd h e
          · exact h
        have hb : b ∈ ls := by
          have : b ∈ a :: ls := hp.symm.subset (by simp)
          rcases List.mem_cons.1 this with h | h
          · exact absurd h.symm e
          · exact h
        exact hd a (by simp) b (by simp [hb]) (q1 a ha) (p1 b hb)
    subst e
    rw [sort_one (fun x hx y hy => hd x (by simp [hx]) y (by simp [hy])) (List.Perm.cons_inv hp) p2 q2]

/-- The places of a table's pairs in the order of their keys. -/
structure SortI (K : Nat → V) (L : Nat) (ls : List Nat) : Prop where
  perm : ls.Perm (List.range L)
  sort : SortW K ls
theorem SortI.len {K : Nat → V} {L : Nat} {ls : List Nat} (h : SortI K L ls) : ls.length = L := by rw [h.perm.length_eq]; simp
theorem SortI.lt {K : Nat → V} {L : Nat} {ls : List Nat} (h : SortI K L ls) {i : Nat} (hi : i < L) : ls.getD i 0 < L := by
  rw [List.getD_eq_getElem?_getD, List.getElem?_eq_getElem (by rw [h.len]; exact hi)]
  exact List.mem_range.1 (h.perm.subset (List.getElem_mem _))
theorem SortI.one {n : Nat} {K X : Nat → V} {L : Nat} {ls ms : List Nat} (hk : OkT n L K X) (h : SortI K L ls) (k : SortI K L ms) : ls = ms := by
  refine sort_one (K := K) (fun a ha b hb h1 h2 => ?_) (h.perm.trans k.perm.symm) h.sort k.sort
  have la := List.mem_range.1 (h.perm.subset ha)
  have lb := List.mem_range.1 (h.perm.subset hb)
  have e := key_one (hk.all a la).key (hk.all b lb).key h1 h2
  rcases Nat.lt_trichotomy a b with h' | h' | h'
  · have := (hk.all b lb).once a h'
    rw [e] at this
    simp [eqV] at this
  · exact h'
  · have := (hk.all a la).once b h'
    rw [e] at this
    simp [eqV] at this

end Go.Proofs.Ytgflalfiopnmnab
