import Derived.Test.YtgflalfiopnmnabSmPure
import Derived.Test.YtgflalfiopnmnabCnFr
import Derived.Test.YtgflalfiopnmnabGmMa
namespace Go.Proofs.Ytgflalfiopnmnab
open Go.RowKit Vl

/-- A value with the number that its table bears. -/
def atV (at_ : Nat → Int) (v : V) : V := if v.k = 4 then ⟨v.k, v.n, v.s, at_ v.a.toNat⟩ else v

/-- What a held value says of itself. -/
theorem as_at {n : Nat} {v : V} (hv : isV n v = true) (T : Nat → Nat) (at_ : Nat → Int) :
    ∃ (t : TypeId) (y : Value) (F : Nat), ifv T v = .iface t y ∧ (∀ w f, (method (f + 3) t y "loop.example/cloth/impl.asVal").run Try.prog w = .ok (F, y) w) ∧ (∀ args w, (callFunc F args).run Try.prog w = .ok (.enter F args) w) ∧
      ∀ w, (∀ j, j < n → w.cell? ⟨T j, 0, none⟩ = some (.int .i64 (at_ j))) → Calls Try.prog F #[y] w fun e w' => e = .returned (vAgg (atV at_ v)) ∧ Below w.heap.size w w' := by
  obtain ⟨k, m, s, a⟩ := v
  by_cases k0 : k = 0
  · subst k0
    simp [isV] at hv
    obtain ⟨rfl, hs, rfl⟩ := hv
    obtain rfl := bytes_empty hs
    exact ⟨_, _, _, rfl, meth_0, Try.call152, fun w _ => asNil_any w⟩
  by_cases k1 : k = 1
  · subst k1
    simp [isV] at hv
    obtain ⟨hm, hs, rfl⟩ := hv
    obtain rfl := bytes_empty hs
    refine ⟨_, _, _, rfl, meth_1 _, Try.call149, fun w _ => (asBool_any _ w).mono ?_⟩
    rintro e w' ⟨rfl, h⟩
    refine ⟨?_, h⟩
    rcases hm with rfl | rfl <;> rfl
  by_cases k2 : k = 2
  · subst k2
    simp [isV] at hv
    obtain ⟨hs, rfl⟩ := hv
    obtain rfl := bytes_empty hs
    exact ⟨_, _, _, rfl, meth_2 _, Try.call150, fun w _ => asInt_any m w⟩
  by_cases k3 : k = 3
  · subst k3
    simp [isV] at hv
    obtain ⟨rfl, rfl, _⟩ := hv
    exact ⟨_, _, _, rfl, meth_3 _, Try.call151, fun w _ => asText_any s w⟩
  by_cases k4 : k = 4
  · subst k4
    simp [isV] at hv
    obtain ⟨rfl, hs, ha0, ha1⟩ := hv
    obtain rfl := bytes_empty hs
    refine ⟨_, _, _, rfl, meth_4 _, Try.call148, fun w hT => asTab_any _ (at_ a.toNat) w ?_⟩
    exact hT a.toNat (by omega)
  · simp [isV, k0, k1, k2, k3, k4] at hv

/-- Values that are no tables, asked whether they are. -/
theorem assert_no {n : Nat} {v : V} (hv : isV n v = true) (h4 : v.k ≠ 4) (T : Nat → Nat) (w : World) : (Instr.typeAssert (ifv T v) 67 92 true).run Try.prog w = .ok (.tuple #[.pointer none, .bool false]) w := by
  obtain ⟨q, m, s, a⟩ := v
  by_cases k0 : q = 0
  · subst k0; kernel_rfl
  by_cases k1 : q = 1
  · subst k1; kernel_rfl
  by_cases k2 : q = 2
  · subst k2; kernel_rfl
  by_cases k3 : q = 3
  · subst k3; kernel_rfl
  · have k4 : ¬ q = 4 := h4
    simp [isV, k0, k1, k2, k3, k4] at hv
theorem ifv_tab {v : V} (h4 : v.k = 4) (T : Nat → Nat) : ifv T v = .iface 92 (.pointer (some ⟨T v.a.toNat, 0, none⟩)) := by
  unfold ifv
  rw [if_neg (by omega), if_neg (by omega), if_neg (by omega), if_neg (by omega)]
theorem assert_yes (b : Nat) (w : World) : (Instr.typeAssert (.iface 92 (.pointer (some ⟨b, 0, none⟩))) 67 92 true).run Try.prog w = .ok (.tuple #[.pointer (some ⟨b, 0, none⟩), .bool true]) w := by kernel_rfl

/-- Tables in memory: what each holds, the number that it bears, its keys in their order. -/
structure Tbs (w : World) (n : Nat) (T M : Nat → Nat) (at_ : Nat → Int) (L : Nat → Nat) (K X : Nat → Nat → V) : Prop where
  tab : ∀ j, j < n → ∃ ord, TabB w (T j) (M j) (at_ j) ord ∧ w.ownsRow 0 29 4 ord (L j) (keyCells (keys (K j) (L j)))
  map : ∀ j, j < n → ∃ l, MapIs w (M j) l ∧ ∀ c, c < L j → findV (K j c) l = some (ifv T (X j c))
  inj : ∀ i j, i < n → j < n → T i = T j → i = j
  gone : ∀ j, j < n → ∀ l, MapIs w (M j) l → ∀ v, (∀ c, c < L j → K j c ≠ v) → findV v l = none

theorem vAgg_inj {u v : V} (h : vAgg u = vAgg v) : u = v := by
  obtain ⟨k, n, s, a⟩ := u
  obtain ⟨k', n', s', a'⟩ := v
  simpa [vAgg] using h
theorem map_inj : ∀ (l l' : List (V × Value)), l.map (fun p => (vAgg p.1, p.2)) = l'.map (fun p => (vAgg p.1, p.2)) → l = l'
  | [], [], _ => rfl
  | [], _ :: _, h => by simp at h
  | _ :: _, [], h => by simp at h
  | (u, x) :: l, (v, y) :: l', h => by
    simp only [List.map_cons, List.cons.injEq, Prod.mk.injEq] at h
    obtain ⟨⟨h1, h2⟩, h3⟩ := h
    rw [vAgg_inj h1, h2, map_inj l l' h3]
theorem MapIs.uniq {w : World} {M : Nat} {l l' : List (V × Value)} (h : MapIs w M l) (h' : MapIs w M l') : l = l' := by
  obtain ⟨es, clk, a, b⟩ := h
  obtain ⟨es', clk', a', b'⟩ := h'
  rw [a] at a'
  cases a'
  exact map_inj l l' (b.symm.trans b')
theorem Tbs.noneB {w w' : World} {n : Nat} {T M : Nat → Nat} {at_ : Nat → Int} {L : Nat → Nat} {K X : Nat → Nat → V} (h : Tbs w n T M at_ L K X) (hM : ∀ j, j < n → w'.heap[M j]? = w.heap[M j]?) : ∀ j, j < n → ∀ l, MapIs w' (M j) l → ∀ v, (∀ c, c < L j → K j c ≠ v) → findV v l = none :=
  fun j hj l hl v hv => h.gone j hj l (hl.same (hM j hj).symm) v hv

theorem Tbs.lt {w : World} {n : Nat} {T M : Nat → Nat} {at_ : Nat → Int} {L : Nat → Nat} {K X : Nat → Nat → V} (h : Tbs w n T M at_ L K X) {j : Nat} (hj : j < n) : T j < w.heap.size := by
  obtain ⟨ord, h1, _⟩ := h.tab j hj
  exact blk_lt h1
theorem Tbs.only {w w' : World} {n : Nat} {T M : Nat → Nat} {at_ : Nat → Int} {L : Nat → Nat} {K X : Nat → Nat → V} {P : Nat → Prop} (h : Tbs w n T M at_ L K X) (ho : Only P w w') (hP : ∀ k, k < w.heap.size → ¬ P k) : Tbs w' n T M at_ L K X := by
  refine ⟨fun j hj => ?_, fun j hj => ?_, h.inj, h.noneB (fun j hj => ?_)⟩
  · obtain ⟨ord, h1, h2⟩ := h.tab j hj
    exact ⟨ord, (ho.block _ (blk_lt h1) (hP _ (blk_lt h1))).trans h1, ho.owns h2 (fun g _ hg => hP g hg)⟩
  · obtain ⟨l, h1, h2⟩ := h.map j hj
    exact ⟨l, h1.same (ho.block _ h1.lt (hP _ h1.lt)), h2⟩
  · obtain ⟨l, h1, _⟩ := h.map j hj
    exact ho.block _ h1.lt (hP _ h1.lt)
theorem Tbs.below {w w' : World} {n : Nat} {T M : Nat → Nat} {at_ : Nat → Int} {L : Nat → Nat} {K X : Nat → Nat → V} (h : Tbs w n T M at_ L K X) (hb : Below w.heap.size w w') : Tbs w' n T M at_ L K X :=
  h.only (Only.below (P := fun _ => False) hb) (fun _ _ h => h)
theorem Tbs.at0 {w : World} {n : Nat} {T M : Nat → Nat} {at_ : Nat → Int} {L : Nat → Nat} {K X : Nat → Nat → V} (h : Tbs w n T M at_ L K X) : ∀ j, j < n → w.cell? ⟨T j, 0, none⟩ = some (.int .i64 (at_ j)) := fun j hj => by
  obtain ⟨ord, h1, _⟩ := h.tab j hj
  exact h1.cells.1

theorem Tbs.only' {w w' : World} {n : Nat} {T M : Nat → Nat} {at_ : Nat → Int} {L : Nat → Nat} {K X : Nat → Nat → V} {ob t : Nat} {cs : Array Value} {z : Nat × Nat} (h : Tbs w n T M at_ L K X) (ho : Only (fun k => k = ob) w w') (hob : w.heap[ob]? = some (.cells cs t z)) (h1 : t ≠ 95) (h2 : t ≠ 29) : Tbs w' n T M at_ L K X := by
  refine ⟨fun j hj => ?_, fun j hj => ?_, h.inj, h.noneB (fun j hj => ?_)⟩
  rotate_left 2
  · obtain ⟨l, a1, _⟩ := h.map j hj
    refine ho.block _ a1.lt (fun e => ?_)
    obtain ⟨es, clk, hb, _⟩ := a1
    rw [e, hob] at hb
    cases hb
  · obtain ⟨ord, a1, a2⟩ := h.tab j hj
    refine ⟨ord, (ho.block _ (blk_lt a1) (fun e => ?_)).trans a1, ho.ownsB a2 (fun g hg e => ?_)⟩
    · unfold TabB at a1
      rw [e, hob] at a1
      cases a1
      exact h1 rfl
    · obtain ⟨_, cur, hc⟩ := owns_type a2 hg
      rw [e, hob] at hc
      cases hc
      exact h2 rfl
  · obtain ⟨l, a1, a2⟩ := h.map j hj
    refine ⟨l, a1.same (ho.block _ a1.lt (fun e => ?_)), a2⟩
    obtain ⟨es, clk, hb, _⟩ := a1
    rw [e, hob] at hb
    cases hb

/-- A number is written. -/
theorem Tbs.setAt {w : World} {n : Nat} {T M : Nat → Nat} {at_ : Nat → Int} {L : Nat → Nat} {K X : Nat → Nat → V} (h : Tbs w n T M at_ L K X) {r : Nat} (hr : r < n) (i : Int) : Tbs (w.setCell ⟨T r, 0, none⟩ (.int .i64 i)) n T M (fun j => if j = r then i else at_ j) L K X := by
  obtain ⟨ordr, hr1, _⟩ := h.tab r hr
  have hne : ∀ k, k ≠ T r → (w.setCell ⟨T r, 0, none⟩ (.int .i64 i)).heap[k]? = w.heap[k]? := fun k hk => Below.heap_setCell _ _ _ _ hk
  refine ⟨fun j hj => ?_, fun j hj => ?_, h.inj, h.noneB (fun j hj => ?_)⟩
  rotate_left 2
  · obtain ⟨l, h1, _⟩ := h.map j hj
    refine hne _ (fun e => ?_)
    obtain ⟨es, clk, hb, _⟩ := h1
    unfold TabB at hr1
    rw [e, hr1] at hb
    cases hb
  · obtain ⟨ord, h1, h2⟩ := h.tab j hj
    refine ⟨ord, ?_, ?_⟩
    · by_cases e : j = r
      · subst e
        rw [if_pos rfl]
        unfold TabB at h1 ⊢
        simp [World.setCell, Array.getElem?_modify, h1]
      · rw [if_neg e]
        exact (hne _ (fun x => e (h.inj j r hj hr x))).trans h1
    · refine ⟨h2.1, ?_⟩
      rcases h2.2 with h3 | ⟨g, cap, cur, hv, hge, hh, rest⟩
      · exact Or.inl h3
      · refine Or.inr ⟨g, cap, cur, hv, hge, ?_, rest⟩
        rw [hne g (fun e => ?_)]
        · exact hh
        · subst e
          unfold TabB at hr1
          rw [hr1] at hh
          cases hh
  · obtain ⟨l, h1, h2⟩ := h.map j hj
    refine ⟨l, h1.same (hne _ (fun e => ?_)), h2⟩
    obtain ⟨es, clk, hb, _⟩ := h1
    unfold TabB at hr1
    rw [e, hr1] at hb
    cases hb

/-- What 'link' leaves. -/
theorem Half.tbs {w : World} {b n : Nat} {u : V} {base L : Nat → Nat} {K X : Nat → Nat → V} (h : Half w b n n base L K X) (hg : OkG n u L K X) : Tbs w n (tT b) (tM b) (fun j => (j : Nat)) L K X := by
  refine ⟨fun j hj => ?_, fun j hj => ?_, fun i j _ _ e => by unfold tT at e; omega, fun j hj l hl v hv => ?_⟩
  rotate_left 2
  · rw [hl.uniq (h.full j hj).1.map, mp_none]
    intro c hc
    cases e : eqV (K j c) v with
    | false => rfl
    | true => exact absurd (eqV_iff.1 e) (hv c hc)
  · obtain ⟨ord, h1, h2⟩ := (h.full j hj).1.tab
    rw [keys_len] at h2
    exact ⟨ord, h1, owns_mono h2 (Nat.zero_le _)⟩
  · refine ⟨_, (h.full j hj).1.map, fun c hc => ?_⟩
    unfold mp
    rw [find_js]
    have : (List.range (L j)).find? (fun i => eqV (K j i) (K j c)) = some c := by
      rw [List.find?_range_eq_some]
      refine ⟨?_, List.mem_range.2 hc, fun i hi => by rw [((hg.all j hj).all c hc).once i hi]; rfl⟩
      simp [eqV]
    rw [this]
    rfl

/-- Keys that are owned, as they are read. -/
theorem owns_keys {w : World} {base L : Nat} {v : Value} {K : Nat → V} (h : w.ownsRow base 29 4 v L (keyCells (keys K L))) : v = .slice (slA v) L (slC v) ∧ ValsAt w (slA v) L (slB v) 0 K := by
  have hform : v = .slice (slA v) L (slC v) := by
    obtain ⟨oa, oc, rfl, _⟩ := owns_form h
    rfl
  refine ⟨hform, ?_⟩
  have kat : ∀ (L j i : Nat), j < L → i < 4 → (keyCells (keys K L))[j * 4 + i]? = [Value.int .i64 (K j).k, .int .i64 (K j).n, .string (K j).s, .int .i64 (K j).a][i]? := by
    intro L
    have klen : ∀ L, (keyCells (keys K L)).length = L * 4 := fun L => by
      induction L with
      | zero => rfl
      | succ L ih => rw [keys_succ]; simp only [keyCells, List.flatMap_append, List.length_append] at ih ⊢; rw [ih]; simp; omega
    induction L with
    | zero => intro j i hj; omega
    | succ L ih =>
      intro j i hj hi
      rw [keys_succ]
      have e : keyCells (keys K L ++ [K L]) = keyCells (keys K L) ++ [.int .i64 (K L).k, .int .i64 (K L).n, .string (K L).s, .int .i64 (K L).a] := by simp [keyCells]
      rw [e]
      by_cases e : j = L
      · subst e
        rw [List.getElem?_append_right (by rw [klen]; omega), klen, show j * 4 + i - j * 4 = i by omega]
      · rw [List.getElem?_append_left (by rw [klen]; omega)]
        exact ih j i (by omega) hi
  have top : ∀ j i, j < L → i < 4 → ∃ g cap, v = .slice (some ⟨g, 0, none⟩) L cap ∧ w.cell? ⟨g, j * 4 + i, none⟩ = [Value.int .i64 (K j).k, .int .i64 (K j).n, .string (K j).s, .int .i64 (K j).a][i]? := by
    intro j i hj hi
    have e := kat L j i hj hi
    obtain ⟨y, hy⟩ : ∃ y, [Value.int .i64 (K j).k, .int .i64 (K j).n, .string (K j).s, .int .i64 (K j).a][i]? = some y := ⟨_, List.getElem?_eq_getElem (by simpa using hi)⟩
    rw [hy] at e ⊢
    exact owns_cell h e
  have cell : ∀ j i, j < L → i < 4 → w.cell? ⟨slB v, j * 4 + i, none⟩ = [Value.int .i64 (K j).k, .int .i64 (K j).n, .string (K j).s, .int .i64 (K j).a][i]? := by
    intro j i hj hi
    obtain ⟨g, cap, rfl, hc⟩ := top j i hj hi
    exact hc
  refine ⟨fun h0 => ?_, fun j hj => ?_⟩
  · obtain ⟨g, cap, rfl, _⟩ := top 0 0 h0 (by omega)
    rfl
  · rw [Nat.zero_add]
    exact ⟨cell j 0 hj (by omega), cell j 1 hj (by omega), cell j 2 hj (by omega), cell j 3 hj (by omega)⟩

theorem share2 {F : Value → World → Prop} {G : Value → World → Prop} {P : Prop} (h : Hid (∀ v w, F v w → G v w) → P) (g : ∀ v w, F v w → G v w) : P := h g

end Go.Proofs.Ytgflalfiopnmnab
