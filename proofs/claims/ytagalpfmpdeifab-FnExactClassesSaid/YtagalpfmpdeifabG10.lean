import Derived.Test.YtagalpfmpdeifabG9
import Derived.LaidEql
namespace Go.Proofs.Ytagalpfmpdeifab
open Go.RowKit Vl

/-- What 'Canon' answers: the canonical graph, or the empty one. -/
def CanonIs (w w' : World) (e : Ending) (n : Nat) (u : V) (L : Nat → Nat) (K X : Nat → Nat → V) : Prop :=
  (OkG n u L K X ∧ ∃ (tv : Value) (PV : Nat → Value) (base : Nat), w.heap.size ≤ base ∧ e = .returned (.agg #[.int .i64 (renum (order n u L X) u).k, .int .i64 (renum (order n u L X) u).n, .string (renum (order n u L X) u).s, .int .i64 (renum (order n u L X) u).a, tv]) ∧ OTab w' base tv (order n u L X).length PV (cL (order n u L X) L) (cK (order n u L X) K) (cX (order n u L X) X)) ∨
  (¬ OkG n u L K X ∧ e = .returned (.agg #[.int .i64 0, .int .i64 0, .string ⟨#[]⟩, .int .i64 0, .slice none 0 0]))

set_option maxHeartbeats 1000000 in
set_option maxRecDepth 100000 in
/-- 'spec.Canon'. -/
theorem specCanon_any (u : V) (ta : Option Addr) (n cp TB TO : Nat) (A : Nat → Option Addr) (L C RB RO : Nat → Nat) (K X : Nat → Nat → V) (w : World) (hn : n ≤ 1048576) (HS : Hid (Small 1048576 n L K X)) (HT : Hid (TabsAt w ta n TB TO A L C RB RO K X)) :
    Calls Try.prog 20 #[.agg #[.int .i64 u.k, .int .i64 u.n, .string u.s, .int .i64 u.a, .slice ta n cp]] w fun e w' => CanonIs w w' e n u L K X ∧ Below w.heap.size w w' := by
  have A2 : Hid _ := alloc2 w (.cells #[.int .i64 u.k, .int .i64 u.n, .string u.s, .int .i64 u.a, .slice ta n cp] 32) (.cells #[.int .i64 0, .int .i64 0, .string ⟨#[]⟩, .int .i64 0, .slice none 0 0] 32)
  obtain ⟨w0, hw0⟩ : ∃ w0, w0 = (w.alloc (.cells #[.int .i64 u.k, .int .i64 u.n, .string u.s, .int .i64 u.a, .slice ta n cp] 32)).alloc (.cells #[.int .i64 0, .int .i64 0, .string ⟨#[]⟩, .int .i64 0, .slice none 0 0] 32) := ⟨_, rfl⟩
  have H0 : Hid (CanW w w0 u ta n cp) := by rw [hw0]; exact ⟨A2.out.1, A2.out.2.1, A2.out.2.2.2⟩
  clear A2
  have hsp := specOk_any u ta n cp TB TO A L C RB RO K X w0 hn HS (HT.out.below H0.out.bel)
  go_enter Try.func20, Try.ntmps20
  go_wp2_with fail
  rw [← hw0]
  refine hsp.mono ?_
  clear hsp hw0
  rintro e w1 ⟨⟨bs, rfl, hbs⟩, hb1⟩
  have H1 : Hid (CanW w w1 u ta n cp) := H0.out.below hb1
  clear hb1 H0
  cases bs
  · have HN : Hid (¬ OkG n u L K X) := show ¬ OkG n u L K X from fun h => by have := hbs.2 h; cases this
    clear hbs
    obtain ⟨r0, r1, r2, r3, r4, r5⟩ := cells5 H1.out.res
    simp only [zeroV] at r0 r1 r2 r3
    go_wp2
    have F := put5hi (put5lo H1.out.res (.int .i64 0) (.int .i64 0) (.string ⟨#[]⟩) (.int .i64 0)) (.slice none 0 0)
    obtain ⟨q0, q1, q2, q3, q4, _⟩ := cells5 F
    refine bodyPost_ret (v := .agg #[.int .i64 0, .int .i64 0, .string ⟨#[]⟩, .int .i64 0, .slice none 0 0]) (by simp [results, Try.results20, go_sem, q0, q1, q2, q3, q4]) rfl ⟨Or.inr ⟨HN.out, rfl⟩, ?_⟩
    exact (H1.out.bel.trans (set4_below.mono (by omega))).setCell (by show w.heap.size ≤ w.heap.size + 1; omega) _
  · have HG : Hid (OkG n u L K X) := hbs.1 rfl
    clear hbs
    obtain ⟨g0, g1, g2, g3, g4, _⟩ := cells5 H1.out.graph
    obtain ⟨S, HSo⟩ : ∃ S, Hid (order n u L X = S) := ⟨_, rfl⟩
    have hcan := l2canon_any u ta n cp TB TO A L C RB RO K X w1 HG (HT.out.below H1.out.bel) S HSo
    obtain ⟨ru, HRU⟩ : ∃ ru, Hid (renum S u = ru) := ⟨_, rfl⟩
    rw [HRU.out] at hcan
    go_wp2_with fail
    refine hcan.mono ?_
    clear hcan g0 g1 g2 g3 g4
    rintro e w2 ⟨⟨tv, PV, base, hbase, rfl, hT⟩, hb2⟩
    have H2 : Hid (CanW w w2 u ta n cp) := H1.out.below hb2
    have HO : Hid (OTab w2 base tv S.length PV (cL S L) (cK S K) (cX S X)) := hT
    have hs1 : w.heap.size + 1 < w1.heap.size := blk_lt H1.out.res
    clear hb2 H1 hT
    obtain ⟨ta', tc', rfl, _⟩ := owns_form HO.out.own
    obtain ⟨r0, r1, r2, r3, r4, r5⟩ := cells5 H2.out.res
    simp only [zeroV] at r0 r1 r2 r3
    go_wp2
    have F := put5hi (put5lo H2.out.res (.int .i64 ru.k) (.int .i64 ru.n) (.string ru.s) (.int .i64 ru.a)) (.slice ta' S.length tc')
    obtain ⟨wf, hwf⟩ : ∃ wf, wf = ((((w2.setCell ⟨w.heap.size + 1, 0, none⟩ (.int .i64 ru.k)).setCell ⟨w.heap.size + 1, 1, none⟩ (.int .i64 ru.n)).setCell ⟨w.heap.size + 1, 2, none⟩ (.string ru.s)).setCell ⟨w.heap.size + 1, 3, none⟩ (.int .i64 ru.a)).setCell ⟨w.heap.size + 1, 4, none⟩ (.slice ta' S.length tc') := ⟨_, rfl⟩
    have ho : Only (fun k => k = w.heap.size + 1) w2 wf := by rw [hwf]; exact set4_only.set (p := ⟨w.heap.size + 1, 4, none⟩) rfl _
    rw [← hwf] at F ⊢
    clear hwf
    obtain ⟨q0, q1, q2, q3, q4, _⟩ := cells5 F
    refine bodyPost_ret (v := .agg #[.int .i64 ru.k, .int .i64 ru.n, .string ru.s, .int .i64 ru.a, .slice ta' S.length tc']) (by simp [results, Try.results20, go_sem, q0, q1, q2, q3, q4]) rfl ⟨Or.inl ⟨HG.out, ?_⟩, H2.out.bel.trans (ho.toBelow (fun k hk => by omega) (by have := H2.out.bel.size; omega))⟩
    rw [HSo.out, HRU.out]
    exact ⟨_, PV, base, by omega, rfl, HO.out.only ho (fun k hk e => by omega)⟩

end Go.Proofs.Ytagalpfmpdeifab

namespace Go.Proofs.Ytagalpfmpdeifab
open Go.RowKit Vl

/-- What is there at a key, by a comparison. -/
def findG {α : Type} (eqb : α → α → Bool) (v : α) : List (α × Value) → Option Value
  | [] => none
  | (k, x) :: l => if eqb v k = true then some x else findG eqb v l

/-- What the keys of a map type are. -/
structure Keyed {α : Type} (mt kt et : TypeId) (enc : α → Value) (ok : World → α → Prop) (eqb : α → α → Bool) (z : Value) : Prop where
  und : Try.prog.underlying mt = some (.map kt et)
  eq : ∀ u v w, ok w u → ok w v → (Op.equal kt (enc u) (enc v)).run Try.prog w = .ok (eqb u v) w
  chk : ∀ em v w, (Instr.checkKey em 10000 kt (enc v)).run Try.prog w = .ok () w
  now : ∃ d, Try.prog.underlying kt = some d ∧ ∀ u v, Instr.sameNow d (enc u) (enc v) = none
  zero : ∀ w, (zeroValue et).run Try.prog w = .ok z w

theorem find_g {α : Type} {mt kt et : TypeId} {enc : α → Value} {ok : World → α → Prop} {eqb : α → α → Bool} {z : Value} (hK : Keyed mt kt et enc ok eqb z) (v : α) (w : World) (hv : ok w v) : ∀ (es : List MapEntry) (l : List (α × Value)) (i : Nat), (∀ p ∈ l, ok w p.1) → es.map (fun e => (e.key, e.val)) = l.map (fun p => (enc p.1, p.2)) →
    (findG eqb v l = none → (Instr.findAsking kt (enc v) es i).run Try.prog w = .ok none w) ∧ (∀ x, findG eqb v l = some x → ∃ j, (Instr.findAsking kt (enc v) es i).run Try.prog w = .ok (some (j, x)) w)
  | [], [], i, _, _ => ⟨fun _ => rfl, fun x h => by cases h⟩
  | [], _ :: _, i, _, h => by simp at h
  | _ :: _, [], i, _, h => by simp at h
  | e :: es, (k, x) :: l, i, hl, h => by
    simp only [List.map_cons, List.cons.injEq, Prod.mk.injEq] at h
    obtain ⟨⟨h1, h2⟩, h3⟩ := h
    have ih := find_g hK v w hv es l (i + 1) (fun p hp => hl p (List.mem_cons_of_mem _ hp)) h3
    have e1 : (Instr.findAsking kt (enc v) (e :: es) i).run Try.prog w = if eqb v k = true then .ok (some (i, e.val)) w else (Instr.findAsking kt (enc v) es (i + 1)).run Try.prog w := by
      conv => lhs; unfold Instr.findAsking
      rw [Sem.run_bind, h1, hK.eq _ _ _ hv (hl (k, x) (by simp))]
      simp only [Result.andThen_ok]
      cases eqb v k <;> simp
    rw [e1]
    unfold findG
    by_cases he : eqb v k = true
    · rw [if_pos he, if_pos he, h2]
      exact ⟨fun h => (by cases h), fun y h => ⟨i, by cases h; rfl⟩⟩
    · rw [if_neg he, if_neg he]
      exact ih

theorem findKey_g {α : Type} {mt kt et : TypeId} {enc : α → Value} {ok : World → α → Prop} {eqb : α → α → Bool} {z : Value} (hK : Keyed mt kt et enc ok eqb z) (v : α) (w : World) (hv : ok w v) (es : List MapEntry) (l : List (α × Value)) (hl : ∀ p ∈ l, ok w p.1) (h : es.map (fun e => (e.key, e.val)) = l.map (fun p => (enc p.1, p.2))) :
    (findG eqb v l = none → (Instr.findKey kt (enc v) es).run Try.prog w = .ok none w) ∧ (∀ x, findG eqb v l = some x → ∃ j, (Instr.findKey kt (enc v) es).run Try.prog w = .ok (some (j, x)) w) := by
  have hf := find_g hK v w hv es l 0 hl h
  obtain ⟨d, hd, hn⟩ := hK.now
  have e1 : (Instr.findKey kt (enc v) es).run Try.prog w = (Instr.findAsking kt (enc v) es 0).run Try.prog w := by
    unfold Instr.findKey
    rw [Sem.run_bind, run_underlying hd]
    simp only [Result.andThen_ok]
    cases es with
    | nil => rfl
    | cons e es =>
      cases l with
      | nil => simp at h
      | cons p l =>
        simp only [List.map_cons, List.cons.injEq, Prod.mk.injEq] at h
        have : Instr.findNow d (enc v) (e :: es) 0 = none := by
          unfold Instr.findNow
          rw [h.1.1, hn]
        rw [this]
  rw [e1]
  exact hf

/-- A block that is a map. -/
def MapG {α : Type} (enc : α → Value) (w : World) (M : Nat) (l : List (α × Value)) : Prop := ∃ es clk, w.heap[M]? = some (.map es clk) ∧ es.toList.map (fun e => (e.key, e.val)) = l.map (fun p => (enc p.1, p.2))

theorem MapG.same {α : Type} {enc : α → Value} {w w' : World} {M : Nat} {l : List (α × Value)} (h : MapG enc w M l) (e : w'.heap[M]? = w.heap[M]?) : MapG enc w' M l := by
  obtain ⟨es, clk, h1, h2⟩ := h
  exact ⟨es, clk, e.trans h1, h2⟩
theorem MapG.lt {α : Type} {enc : α → Value} {w : World} {M : Nat} {l : List (α × Value)} (h : MapG enc w M l) : M < w.heap.size := by
  obtain ⟨es, clk, h1, _⟩ := h
  exact blk_lt h1
theorem MapG.len {α : Type} {enc : α → Value} {w : World} {M : Nat} {l : List (α × Value)} (h : MapG enc w M l) : ∃ es clk, w.heap[M]? = some (.map es clk) ∧ es.size = l.length := by
  obtain ⟨es, clk, h1, h2⟩ := h
  refine ⟨es, clk, h1, ?_⟩
  have := congrArg List.length h2
  simpa using this

theorem MapG.lookup {α : Type} {mt kt et : TypeId} {enc : α → Value} {ok : World → α → Prop} {eqb : α → α → Bool} {z : Value} (hK : Keyed mt kt et enc ok eqb z) {w : World} {M : Nat} {l : List (α × Value)} (h : MapG enc w M l) (v : α) (hv : ok w v) (hok : ∀ p ∈ l, ok w p.1) :
    (Instr.lookup mt (.map (some M)) (enc v) true).run Try.prog w = .ok (.tuple #[(findG eqb v l).getD z, .bool (findG eqb v l).isSome]) w ∧
    (Instr.lookup mt (.map (some M)) (enc v) false).run Try.prog w = .ok ((findG eqb v l).getD z) w := by
  obtain ⟨es, clk, hb, hl⟩ := h
  have hk := findKey_g hK v w hv es.toList l hok hl
  cases hf : findG eqb v l with
  | none =>
    have h1 := hk.1 hf
    constructor <;> simp [Instr.lookup, run_underlying hK.und, MapKept.run_getObj_map hb, hK.chk, h1, hK.zero, Result.andThen]
  | some x =>
    obtain ⟨j, h1⟩ := hk.2 x hf
    constructor <;> simp [Instr.lookup, run_underlying hK.und, MapKept.run_getObj_map hb, hK.chk, h1, Result.andThen]

theorem MapG.update {α : Type} {mt kt et : TypeId} {enc : α → Value} {ok : World → α → Prop} {eqb : α → α → Bool} {z : Value} (hK : Keyed mt kt et enc ok eqb z) {w : World} {M : Nat} {l : List (α × Value)} (h : MapG enc w M l) (v : α) (x : Value) (hv : ok w v) (hok : ∀ p ∈ l, ok w p.1) (hf : findG eqb v l = none) :
    ∃ w', (Instr.mapUpdate mt (.map (some M)) (enc v) x).run Try.prog w = .ok () w' ∧ MapG enc w' M (l ++ [(v, x)]) ∧ Only (fun k => k = M) w w' ∧ w'.heap.size = w.heap.size := by
  obtain ⟨es, clk, hb, hl⟩ := h
  have hk := (findKey_g hK v w hv es.toList l hok hl).1 hf
  refine ⟨{ w with heap := w.heap.setIfInBounds M (.map (es.push { key := enc v, val := x, born := clk }) (clk + 1)) }, ?_, ?_, ?_, by simp⟩
  · simp [Instr.mapUpdate, run_underlying hK.und, MapKept.run_getObj_map hb, hK.chk, hk, Result.andThen, MapKept.run_setObj_map _ hb]
  · refine ⟨_, _, by rw [Array.getElem?_setIfInBounds_self_of_lt (blk_lt hb)], ?_⟩
    simp [hl]
  · refine ⟨rfl, rfl, rfl, by simp, fun k _ hk => ?_⟩
    show (w.heap.setIfInBounds M _)[k]? = w.heap[k]?
    rw [Array.getElem?_setIfInBounds_ne (fun e => hk e.symm)]

/-- Pointers to blocks as keys. -/
abbrev ptr (b : Nat) : Value := .pointer (some ⟨b, 0, none⟩)
/-- A block of cells. -/
def IsB (w : World) (b : Nat) : Prop := ∃ ca ta, w.heap[b]? = some (.cells ca ta (0, 0))
theorem size_table : ∃ j, Try.prog.info? 95 = some j ∧ j.size ≠ 0 := by
  have h : (Try.prog.info? 95).map (fun i => i.size) = some 3 := by kernel_rfl
  cases hi : Try.prog.info? 95 with
  | none => rw [hi] at h; cases h
  | some j => rw [hi] at h; exact ⟨j, rfl, by simp at h; omega⟩
theorem eq_ptr (u v : Nat) (w : World) (hu : IsB w u) (hv : IsB w v) (d : Nat) : (Op.equalIn (d + 1) 92 (ptr u) (ptr v)).run Try.prog w = .ok (u == v) w := by
  obtain ⟨j, hj, hs⟩ := size_table
  obtain ⟨ca, ta, ha⟩ := hu
  obtain ⟨cb, tb, hb⟩ := hv
  by_cases h : u = v
  · subst h
    simp [Op.equalIn, run_underlying Try.underlying92, sizeOf, typeInfo, hj, run_sameAddr_same]
  · have hne : (⟨u, 0, none⟩ : Addr) ≠ ⟨v, 0, none⟩ := fun e => h (by cases e; rfl)
    simp [Op.equalIn, run_underlying Try.underlying92, sizeOf, typeInfo, hj, hs, run_sameAddr_other w hne ha hb, h]
theorem seen_keyed : Keyed 145 92 151 ptr IsB (fun a b => a == b) (.agg #[]) where
  und := Try.underlying145
  eq := fun u v w hu hv => eq_ptr u v w hu hv 9999
  chk := fun em v w => by kernel_rfl
  now := ⟨_, Try.underlying92, fun u v => rfl⟩
  zero := fun w => by kernel_rfl

theorem findG_mem (f : Nat → Nat) (hf : Nat → Value) (r : Nat) : ∀ (S : List Nat), (∀ i ∈ S, f i = f r → i = r) → (findG (fun a b => a == b) (f r) (S.map fun i => (f i, hf i))).isSome = decide (r ∈ S)
  | [], _ => rfl
  | i :: S, h => by
    simp only [List.map_cons, findG]
    by_cases e : f r = f i
    · rw [if_pos (by simpa using e)]
      have := h i (by simp) e.symm
      subst this
      simp
    · rw [if_neg (by simpa using e), findG_mem f hf r S (fun j hj => h j (by simp [hj]))]
      have : ¬ r = i := fun x => e (by rw [x])
      simp [this]

theorem findG_const {α : Type} (eqb : α → α → Bool) (v : α) (T : Nat → α) (c : Value) : ∀ S : List Nat, (findG eqb v (S.map fun j => (T j, c))).getD c = c
  | [] => rfl
  | i :: S => by
    simp only [List.map_cons, findG]
    split
    · rfl
    · exact findG_const eqb v T c S

end Go.Proofs.Ytagalpfmpdeifab

namespace Go.Proofs.Ytagalpfmpdeifab
open Go.RowKit Vl

/-- A value with the number that its table bears. -/
def atV (at_ : Nat → Int) (v : V) : V := if v.k = 4 then ⟨v.k, v.n, v.s, at_ v.a.toNat⟩ else v

/-- What a held value says of itself. -/
theorem as_at {n : Nat} {v : V} (hv : isV n v = true) (T : Nat → Nat) (at_ : Nat → Int) :
    ∃ (t : TypeId) (y : Value) (F : Nat), ifv T v = .iface t y ∧ (∀ w f, (method (f + 3) t y "loop.example/cloth/impl.asVal").run Try.prog w = .ok (F, y) w) ∧ (∀ args w, (callFunc F args).run Try.prog w = .ok (.enter F args) w) ∧
      ∀ w, (∀ j, j < n → w.cell? ⟨T j, 0, none⟩ = some (.int .i64 (at_ j))) → Calls Try.prog F #[y] w fun e w' => e = .returned (vAgg (atV at_ v)) ∧ Below w.heap.size w w' := by
  obtain ⟨k, m, s, a⟩ := v
  by_cases k0 : k = 0
  · subst k0
    simp [isV] at hv
    obtain ⟨rfl, hs, rfl⟩ := hv
    obtain rfl := bytes_empty hs
    exact ⟨_, _, _, rfl, meth_0, Try.call152, fun w _ => asNil_any w⟩
  by_cases k1 : k = 1
  · subst k1
    simp [isV] at hv
    obtain ⟨hm, hs, rfl⟩ := hv
    obtain rfl := bytes_empty hs
    refine ⟨_, _, _, rfl, meth_1 _, Try.call149, fun w _ => (asBool_any _ w).mono ?_⟩
    rintro e w' ⟨rfl, h⟩
    refine ⟨?_, h⟩
    rcases hm with rfl | rfl <;> rfl
  by_cases k2 : k = 2
  · subst k2
    simp [isV] at hv
    obtain ⟨hs, rfl⟩ := hv
    obtain rfl := bytes_empty hs
    exact ⟨_, _, _, rfl, meth_2 _, Try.call150, fun w _ => asInt_any m w⟩
  by_cases k3 : k = 3
  · subst k3
    simp [isV] at hv
    obtain ⟨rfl, rfl, _⟩ := hv
    exact ⟨_, _, _, rfl, meth_3 _, Try.call151, fun w _ => asText_any s w⟩
  by_cases k4 : k = 4
  · subst k4
    simp [isV] at hv
    obtain ⟨rfl, hs, ha0, ha1⟩ := hv
    obtain rfl := bytes_empty hs
    refine ⟨_, _, _, rfl, meth_4 _, Try.call148, fun w hT => asTab_any _ (at_ a.toNat) w ?_⟩
    exact hT a.toNat (by omega)
  · simp [isV, k0, k1, k2, k3, k4] at hv

/-- Values that are no tables, asked whether they are. -/
theorem assert_no {n : Nat} {v : V} (hv : isV n v = true) (h4 : v.k ≠ 4) (T : Nat → Nat) (w : World) : (Instr.typeAssert (ifv T v) 67 92 true).run Try.prog w = .ok (.tuple #[.pointer none, .bool false]) w := by
  obtain ⟨q, m, s, a⟩ := v
  by_cases k0 : q = 0
  · subst k0; kernel_rfl
  by_cases k1 : q = 1
  · subst k1; kernel_rfl
  by_cases k2 : q = 2
  · subst k2; kernel_rfl
  by_cases k3 : q = 3
  · subst k3; kernel_rfl
  · have k4 : ¬ q = 4 := h4
    simp [isV, k0, k1, k2, k3, k4] at hv
theorem ifv_tab {v : V} (h4 : v.k = 4) (T : Nat → Nat) : ifv T v = .iface 92 (.pointer (some ⟨T v.a.toNat, 0, none⟩)) := by
  unfold ifv
  rw [if_neg (by omega), if_neg (by omega), if_neg (by omega), if_neg (by omega)]
theorem assert_yes (b : Nat) (w : World) : (Instr.typeAssert (.iface 92 (.pointer (some ⟨b, 0, none⟩))) 67 92 true).run Try.prog w = .ok (.tuple #[.pointer (some ⟨b, 0, none⟩), .bool true]) w := by kernel_rfl

/-- Tables in memory: what each holds, the number that it bears, its keys in their order. -/
structure Tbs (w : World) (n : Nat) (T M : Nat → Nat) (at_ : Nat → Int) (L : Nat → Nat) (K X : Nat → Nat → V) : Prop where
  tab : ∀ j, j < n → ∃ ord, TabB w (T j) (M j) (at_ j) ord ∧ w.ownsRow 0 29 4 ord (L j) (keyCells (keys (K j) (L j)))
  map : ∀ j, j < n → ∃ l, MapIs w (M j) l ∧ ∀ c, c < L j → findV (K j c) l = some (ifv T (X j c))
  inj : ∀ i j, i < n → j < n → T i = T j → i = j

theorem Tbs.lt {w : World} {n : Nat} {T M : Nat → Nat} {at_ : Nat → Int} {L : Nat → Nat} {K X : Nat → Nat → V} (h : Tbs w n T M at_ L K X) {j : Nat} (hj : j < n) : T j < w.heap.size := by
  obtain ⟨ord, h1, _⟩ := h.tab j hj
  exact blk_lt h1
theorem Tbs.only {w w' : World} {n : Nat} {T M : Nat → Nat} {at_ : Nat → Int} {L : Nat → Nat} {K X : Nat → Nat → V} {P : Nat → Prop} (h : Tbs w n T M at_ L K X) (ho : Only P w w') (hP : ∀ k, k < w.heap.size → ¬ P k) : Tbs w' n T M at_ L K X := by
  refine ⟨fun j hj => ?_, fun j hj => ?_, h.inj⟩
  · obtain ⟨ord, h1, h2⟩ := h.tab j hj
    exact ⟨ord, (ho.block _ (blk_lt h1) (hP _ (blk_lt h1))).trans h1, ho.owns h2 (fun g _ hg => hP g hg)⟩
  · obtain ⟨l, h1, h2⟩ := h.map j hj
    exact ⟨l, h1.same (ho.block _ h1.lt (hP _ h1.lt)), h2⟩
theorem Tbs.below {w w' : World} {n : Nat} {T M : Nat → Nat} {at_ : Nat → Int} {L : Nat → Nat} {K X : Nat → Nat → V} (h : Tbs w n T M at_ L K X) (hb : Below w.heap.size w w') : Tbs w' n T M at_ L K X :=
  h.only (Only.below (P := fun _ => False) hb) (fun _ _ h => h)
theorem Tbs.at0 {w : World} {n : Nat} {T M : Nat → Nat} {at_ : Nat → Int} {L : Nat → Nat} {K X : Nat → Nat → V} (h : Tbs w n T M at_ L K X) : ∀ j, j < n → w.cell? ⟨T j, 0, none⟩ = some (.int .i64 (at_ j)) := fun j hj => by
  obtain ⟨ord, h1, _⟩ := h.tab j hj
  exact h1.cells.1

theorem Tbs.only' {w w' : World} {n : Nat} {T M : Nat → Nat} {at_ : Nat → Int} {L : Nat → Nat} {K X : Nat → Nat → V} {ob t : Nat} {cs : Array Value} {z : Nat × Nat} (h : Tbs w n T M at_ L K X) (ho : Only (fun k => k = ob) w w') (hob : w.heap[ob]? = some (.cells cs t z)) (h1 : t ≠ 95) (h2 : t ≠ 29) : Tbs w' n T M at_ L K X := by
  refine ⟨fun j hj => ?_, fun j hj => ?_, h.inj⟩
  · obtain ⟨ord, a1, a2⟩ := h.tab j hj
    refine ⟨ord, (ho.block _ (blk_lt a1) (fun e => ?_)).trans a1, ho.ownsB a2 (fun g hg e => ?_)⟩
    · unfold TabB at a1
      rw [e, hob] at a1
      cases a1
      exact h1 rfl
    · obtain ⟨_, cur, hc⟩ := owns_type a2 hg
      rw [e, hob] at hc
      cases hc
      exact h2 rfl
  · obtain ⟨l, a1, a2⟩ := h.map j hj
    refine ⟨l, a1.same (ho.block _ a1.lt (fun e => ?_)), a2⟩
    obtain ⟨es, clk, hb, _⟩ := a1
    rw [e, hob] at hb
    cases hb

/-- A number is written. -/
theorem Tbs.setAt {w : World} {n : Nat} {T M : Nat → Nat} {at_ : Nat → Int} {L : Nat → Nat} {K X : Nat → Nat → V} (h : Tbs w n T M at_ L K X) {r : Nat} (hr : r < n) (i : Int) : Tbs (w.setCell ⟨T r, 0, none⟩ (.int .i64 i)) n T M (fun j => if j = r then i else at_ j) L K X := by
  obtain ⟨ordr, hr1, _⟩ := h.tab r hr
  have hne : ∀ k, k ≠ T r → (w.setCell ⟨T r, 0, none⟩ (.int .i64 i)).heap[k]? = w.heap[k]? := fun k hk => Below.heap_setCell _ _ _ _ hk
  refine ⟨fun j hj => ?_, fun j hj => ?_, h.inj⟩
  · obtain ⟨ord, h1, h2⟩ := h.tab j hj
    refine ⟨ord, ?_, ?_⟩
    · by_cases e : j = r
      · subst e
        rw [if_pos rfl]
        unfold TabB at h1 ⊢
        simp [World.setCell, Array.getElem?_modify, h1]
      · rw [if_neg e]
        exact (hne _ (fun x => e (h.inj j r hj hr x))).trans h1
    · refine ⟨h2.1, ?_⟩
      rcases h2.2 with h3 | ⟨g, cap, cur, hv, hge, hh, rest⟩
      · exact Or.inl h3
      · refine Or.inr ⟨g, cap, cur, hv, hge, ?_, rest⟩
        rw [hne g (fun e => ?_)]
        · exact hh
        · subst e
          unfold TabB at hr1
          rw [hr1] at hh
          cases hh
  · obtain ⟨l, h1, h2⟩ := h.map j hj
    refine ⟨l, h1.same (hne _ (fun e => ?_)), h2⟩
    obtain ⟨es, clk, hb, _⟩ := h1
    unfold TabB at hr1
    rw [e, hr1] at hb
    cases hb

/-- What 'link' leaves. -/
theorem Half.tbs {w : World} {b n : Nat} {u : V} {base L : Nat → Nat} {K X : Nat → Nat → V} (h : Half w b n n base L K X) (hg : OkG n u L K X) : Tbs w n (tT b) (tM b) (fun j => (j : Nat)) L K X := by
  refine ⟨fun j hj => ?_, fun j hj => ?_, fun i j _ _ e => by unfold tT at e; omega⟩
  · obtain ⟨ord, h1, h2⟩ := (h.full j hj).1.tab
    rw [keys_len] at h2
    exact ⟨ord, h1, owns_mono h2 (Nat.zero_le _)⟩
  · refine ⟨_, (h.full j hj).1.map, fun c hc => ?_⟩
    unfold mp
    rw [find_js]
    have : (List.range (L j)).find? (fun i => eqV (K j i) (K j c)) = some c := by
      rw [List.find?_range_eq_some]
      refine ⟨?_, List.mem_range.2 hc, fun i hi => by rw [((hg.all j hj).all c hc).once i hi]; rfl⟩
      simp [eqV]
    rw [this]
    rfl

/-- Keys that are owned, as they are read. -/
theorem owns_keys {w : World} {base L : Nat} {v : Value} {K : Nat → V} (h : w.ownsRow base 29 4 v L (keyCells (keys K L))) : v = .slice (slA v) L (slC v) ∧ ValsAt w (slA v) L (slB v) 0 K := by
  have hform : v = .slice (slA v) L (slC v) := by
    obtain ⟨oa, oc, rfl, _⟩ := owns_form h
    rfl
  refine ⟨hform, ?_⟩
  have kat : ∀ (L j i : Nat), j < L → i < 4 → (keyCells (keys K L))[j * 4 + i]? = [Value.int .i64 (K j).k, .int .i64 (K j).n, .string (K j).s, .int .i64 (K j).a][i]? := by
    intro L
    have klen : ∀ L, (keyCells (keys K L)).length = L * 4 := fun L => by
      induction L with
      | zero => rfl
      | succ L ih => rw [keys_succ]; simp only [keyCells, List.flatMap_append, List.length_append] at ih ⊢; rw [ih]; simp; omega
    induction L with
    | zero => intro j i hj; omega
    | succ L ih =>
      intro j i hj hi
      rw [keys_succ]
      have e : keyCells (keys K L ++ [K L]) = keyCells (keys K L) ++ [.int .i64 (K L).k, .int .i64 (K L).n, .string (K L).s, .int .i64 (K L).a] := by simp [keyCells]
      rw [e]
      by_cases e : j = L
      · subst e
        rw [List.getElem?_append_right (by rw [klen]; omega), klen, show j * 4 + i - j * 4 = i by omega]
      · rw [List.getElem?_append_left (by rw [klen]; omega)]
        exact ih j i (by omega) hi
  have top : ∀ j i, j < L → i < 4 → ∃ g cap, v = .slice (some ⟨g, 0, none⟩) L cap ∧ w.cell? ⟨g, j * 4 + i, none⟩ = [Value.int .i64 (K j).k, .int .i64 (K j).n, .string (K j).s, .int .i64 (K j).a][i]? := by
    intro j i hj hi
    have e := kat L j i hj hi
    obtain ⟨y, hy⟩ : ∃ y, [Value.int .i64 (K j).k, .int .i64 (K j).n, .string (K j).s, .int .i64 (K j).a][i]? = some y := ⟨_, List.getElem?_eq_getElem (by simpa using hi)⟩
    rw [hy] at e ⊢
    exact owns_cell h e
  have cell : ∀ j i, j < L → i < 4 → w.cell? ⟨slB v, j * 4 + i, none⟩ = [Value.int .i64 (K j).k, .int .i64 (K j).n, .string (K j).s, .int .i64 (K j).a][i]? := by
    intro j i hj hi
    obtain ⟨g, cap, rfl, hc⟩ := top j i hj hi
    exact hc
  refine ⟨fun h0 => ?_, fun j hj => ?_⟩
  · obtain ⟨g, cap, rfl, _⟩ := top 0 0 h0 (by omega)
    rfl
  · rw [Nat.zero_add]
    exact ⟨cell j 0 hj (by omega), cell j 1 hj (by omega), cell j 2 hj (by omega), cell j 3 hj (by omega)⟩

theorem share2 {F : Value → World → Prop} {G : Value → World → Prop} {P : Prop} (h : Hid (∀ v w, F v w → G v w) → P) (g : ∀ v w, F v w → G v w) : P := h g

end Go.Proofs.Ytagalpfmpdeifab

namespace Go.Proofs.Ytagalpfmpdeifab
open Go.RowKit Vl

set_option maxHeartbeats 2000000 in
set_option maxRecDepth 100000 in
/-- '(*table).pairs'. -/
theorem pairs_any (n : Nat) (T M : Nat → Nat) (at_ : Nat → Int) (L : Nat → Nat) (K X : Nat → Nat → V) (r : Nat) (w : World) (hr : r < n) (hL : L r ≤ 100) (HG : Hid (Good n L X)) (HT : Hid (Tbs w n T M at_ L K X)) :
    Calls Try.prog 85 #[.pointer (some ⟨T r, 0, none⟩)] w fun e w' => (∃ pv, e = .returned pv ∧ w'.ownsRow w.heap.size 63 8 pv (L r) (pairCells (K r) (fun c => atV at_ (X r c)) (L r))) ∧ Below w.heap.size w w' := by
  obtain ⟨ord, hTb, hOr⟩ := HT.out.tab r hr
  obtain ⟨l, hM, hfind⟩ := HT.out.map r hr
  obtain ⟨hform, hVals⟩ := owns_keys hOr
  have HTb : Hid (TabB w (T r) (M r) (at_ r) ord) := hTb
  have HM : Hid (MapIs w (M r) l) := hM
  have HF : Hid (∀ c, c < L r → findV (K r c) l = some (ifv T (X r c))) := hfind
  obtain ⟨ka, hka⟩ : ∃ ka, slA ord = ka := ⟨_, rfl⟩
  obtain ⟨kb, hkb⟩ : ∃ kb, slB ord = kb := ⟨_, rfl⟩
  obtain ⟨kc, hkc⟩ : ∃ kc, slC ord = kc := ⟨_, rfl⟩
  rw [hka, hkc] at hform
  rw [hka, hkb] at hVals
  have HV : Hid (ValsAt w ka (L r) kb 0 (K r)) := hVals
  rw [hform] at HTb
  clear hTb hM hfind hVals hOr hform hka hkb hkc
  obtain ⟨ip, hpi, hp0, hp1, hp2⟩ := info_parts Try.info63
  obtain ⟨t0, t1, t2, _⟩ := HTb.out.cells
  go_enter Try.func85, Try.ntmps85
  go_wp2
  clear t0 t1 t2
  go_loopw [3, 11] (fun pv ii wr => ∃ c : Nat, c ≤ L r ∧ ii = .int .i64 c ∧ Hid (wr.ownsRow w.heap.size 63 8 pv c (pairCells (K r) (fun c => atV at_ (X r c)) c)) ∧ Hid (Below w.heap.size w wr)) (fun _ ii _ => L r - (intOf ii).toNat)
  case atStart => exact ⟨0, Nat.zero_le _, rfl, World.ownsRow_nil _ _ _ _, Below.refl _ _⟩
  case round =>
    obtain ⟨c, hc, rfl, HO, HB⟩ := hrel
    obtain ⟨pa, pc, rfl, hpk⟩ := owns_form HO.out
    have HPK : Hid (∀ k, (Value.slice pa c pc).ownBlock = some k → w.heap.size ≤ k ∧ k < wr.heap.size) := hpk
    clear hpk
    by_cases hlt : c < L r
    · obtain rfl := HV.out.top (by omega)
      obtain ⟨k0, k1, k2, k3⟩ := (HV.out.below HB.out).cells hlt
      simp only [Nat.zero_add] at k0 k1 k2 k3
      obtain ⟨kk, HKK⟩ : ∃ kk, Hid (K r c = kk) := ⟨_, rfl⟩
      rw [HKK.out] at k0 k1 k2 k3
      go_wp2
      obtain ⟨wk, hwk⟩ : ∃ wk, wk = wr.alloc (.cells #[.int .i64 kk.k, .int .i64 kk.n, .string kk.s, .int .i64 kk.a] 29) := ⟨_, rfl⟩
      have HBk : Hid (Below wr.heap.size wr wk) := by rw [hwk]; exact (Below.refl _ _).alloc (Nat.le_refl _) _
      have HKb : Hid (ValB wk wr.heap.size kk) := by rw [hwk]; exact heap_alloc_new _ _
      rw [← hwk]
      have hszk : wk.heap.size = wr.heap.size + 1 := by rw [hwk]; simp
      obtain ⟨qb, hqb⟩ : ∃ qb, wr.heap.size = qb := ⟨_, rfl⟩
      have hqw : w.heap.size ≤ qb := by rw [← hqb]; exact HB.out.size
      rw [hqb] at HKb ⊢
      clear hwk k0 k1 k2 k3
      have HBw : Hid (Below w.heap.size w wk) := HB.out.trans (HBk.out.mono HB.out.size)
      have HOk : Hid (wk.ownsRow w.heap.size 63 8 (.slice pa c pc) c (pairCells (K r) (fun c => atV at_ (X r c)) c)) := (Only.below (P := fun _ => False) HBk.out).owns HO.out (fun _ _ _ h => h)
      clear HBk HO HB
      have hiv := HG.out r hr c hlt
      obtain ⟨xt, xy, F, hty, hmeth, hcf, hcall⟩ := as_at hiv T at_
      obtain ⟨y, HY⟩ : ∃ y, Hid (atV at_ (X r c) = y) := ⟨_, rfl⟩
      rw [HY.out] at hcall
      have hfc := HF.out c hlt
      rw [hty, HKK.out] at hfc
      have hS : ∀ w' : World, Below w.heap.size w w' → w'.cell? ⟨T r, 1, none⟩ = some (.map (some (M r))) ∧ (Instr.lookup 93 (.map (some (M r))) (.agg #[.int .i64 kk.k, .int .i64 kk.n, .string kk.s, .int .i64 kk.a]) false).run Try.prog w' = .ok (.iface xt xy) w' ∧ (∀ j, j < n → w'.cell? ⟨T j, 0, none⟩ = some (.int .i64 (at_ j))) := fun w' hb => by
        refine ⟨(hb.cell (p := ⟨T r, 1, none⟩) (HT.out.lt hr)).trans HTb.out.cells.2.1, ?_, fun j hj => (hb.cell (p := ⟨T j, 0, none⟩) (HT.out.lt hj)).trans (HT.out.at0 j hj)⟩
        have := ((HM.out.same (hb.block _ HM.out.lt)).lookup kk).2
        rw [hfc] at this
        exact this
      have HS : Hid _ := hS
      clear hS hfc hty
      have hnb : qb < wk.heap.size := by omega
      refine wp_region_held_drew (S := fun w' => Below w.heap.size w w' ∧ ValB w' qb kk) (by kernel_rfl) ⟨HBw.out.drew, HKb.out⟩ (fun hHeld => ?_)
      refine wpAnyH_take (i := 0) (v := .slice pa c pc) rfl (by kernel_rfl) (by kernel_rfl) (by kernel_rfl) (fun _ _ _ h => h) (Or.inl ⟨by rfl, fun w hSw => ?_⟩) hHeld ?_
      · first | rfl | go_simp
      simp only [Act.put, List.setIfInBounds_toArray, List.set_cons_zero, List.set_cons_succ, List.getElem_toArray, List.getElem_cons_zero]
      refine wpAnyH_take (i := 1) (v := .agg #[.int .i64 kk.k, .int .i64 kk.n, .string kk.s, .int .i64 kk.a]) rfl (by kernel_rfl) (by kernel_rfl) (by kernel_rfl) (fun _ _ _ h => h) (Or.inl ⟨by rfl, fun w hSw => ?_⟩) hHeld ?_
      · obtain ⟨s0, s1, s2, s3, _⟩ := cells4 hSw.2
        first | rfl | go_simp
      simp only [Act.put, List.setIfInBounds_toArray, List.set_cons_zero, List.set_cons_succ, List.getElem_toArray, List.getElem_cons_zero, List.getElem_cons_succ]
      refine wpAnyH_take (i := 2) (v := .pointer (some ⟨T r, 0, none⟩)) rfl (by kernel_rfl) (by kernel_rfl) (by kernel_rfl) (fun _ _ _ h => h) (Or.inl ⟨by rfl, fun w hSw => ?_⟩) hHeld ?_
      · first | rfl | go_simp
      simp only [Act.put, List.setIfInBounds_toArray, List.set_cons_zero, List.set_cons_succ, List.getElem_toArray, List.getElem_cons_zero, List.getElem_cons_succ]
      refine wpAnyH_take (i := 3) (v := .pointer (some ⟨T r, 0, none⟩)) rfl (by kernel_rfl) (by kernel_rfl) (by kernel_rfl) (fun _ _ _ h => h) (Or.inl ⟨by rfl, fun w hSw => ?_⟩) hHeld ?_
      · first | rfl | go_simp
      simp only [Act.put, List.setIfInBounds_toArray, List.set_cons_zero, List.set_cons_succ, List.getElem_toArray, List.getElem_cons_zero, List.getElem_cons_succ]
      refine wpAnyH_take (i := 4) (v := .pointer (some ⟨T r, 1, none⟩)) rfl (by kernel_rfl) (by kernel_rfl) (by kernel_rfl) (fun _ _ _ h => h) (Or.inl ⟨by rfl, fun w hSw => ?_⟩) hHeld ?_
      · first | rfl | go_simp
      simp only [Act.put, List.setIfInBounds_toArray, List.set_cons_zero, List.set_cons_succ, List.getElem_toArray, List.getElem_cons_zero, List.getElem_cons_succ]
      refine wpAnyH_take (i := 5) (v := .map (some (M r))) rfl (by kernel_rfl) (by kernel_rfl) (by kernel_rfl) (fun _ _ _ h => h) (Or.inl ⟨by rfl, fun w hSw => ?_⟩) hHeld ?_
      · have s1 := (HS.out w hSw.1).1
        first | rfl | go_simp
      simp only [Act.put, List.setIfInBounds_toArray, List.set_cons_zero, List.set_cons_succ, List.getElem_toArray, List.getElem_cons_zero, List.getElem_cons_succ]
      refine wpAnyH_take (i := 6) (v := .agg #[.int .i64 kk.k, .int .i64 kk.n, .string kk.s, .int .i64 kk.a]) rfl (by kernel_rfl) (by kernel_rfl) (by kernel_rfl) (fun _ _ _ h => h) (Or.inl ⟨by rfl, fun w hSw => ?_⟩) hHeld ?_
      · obtain ⟨s0, s1, s2, s3, _⟩ := cells4 hSw.2
        first | rfl | go_simp
      simp only [Act.put, List.setIfInBounds_toArray, List.set_cons_zero, List.set_cons_succ, List.getElem_toArray, List.getElem_cons_zero, List.getElem_cons_succ]
      refine wpAnyH_take (i := 7) (v := .iface xt xy) rfl (by kernel_rfl) (by kernel_rfl) (by kernel_rfl) (fun _ _ _ h => h) (Or.inl ⟨by rfl, fun w hSw => ?_⟩) hHeld ?_
      · have s1 := (HS.out w hSw.1).2.1
        first | rfl | go_simp
      simp only [Act.put, List.setIfInBounds_toArray, List.set_cons_zero, List.set_cons_succ, List.getElem_toArray, List.getElem_cons_zero, List.getElem_cons_succ]
      refine wpAnyH_ready (rs := [8]) (by kernel_rfl) (by simp) ?_
      refine AllReadyH.cons rfl (fun K' hK' => ?_) AllReadyH.nil
      have hcl := hcall wk.drew (HS.out _ HBw.out.drew).2.2
      clear hcall
      go_simp
      refine hcl.mono ?_
      clear hcl
      rintro e w5 ⟨rfl, hb5⟩
      have HB5 : Hid (Below w.heap.size w w5) := HBw.out.drew.trans (hb5.mono HBw.out.size)
      have HK5 : Hid (ValB w5 qb kk) := (show ValB wk.drew qb kk from HKb.out).below hb5
      have HO5 : Hid (w5.ownsRow w.heap.size 63 8 (.slice pa c pc) c (pairCells (K r) (fun c => atV at_ (X r c)) c)) := (Only.below (P := fun _ => False) hb5).owns (a := wk.drew) HOk.out (fun _ _ _ h => h)
      refine hK'.out _ _ ⟨HB5.out, HK5.out⟩ (fun hHeld => ?_)
      clear hK' hb5
      refine wpAnyH_take (i := 9) (v := .agg #[.int .i64 kk.k, .int .i64 kk.n, .string kk.s, .int .i64 kk.a, .int .i64 y.k, .int .i64 y.n, .string y.s, .int .i64 y.a]) rfl (by kernel_rfl) (by kernel_rfl) (by kernel_rfl) (fun _ _ _ h => h) (Or.inl ⟨by rfl, fun w hSw => ?_⟩) hHeld ?_
      · first | rfl | go_simp
      simp only [Act.put, List.setIfInBounds_toArray, List.set_cons_zero, List.set_cons_succ, List.getElem_toArray, List.getElem_cons_zero, List.getElem_cons_succ]
      refine wpAnyH_ready (rs := [10]) (by kernel_rfl) (by simp) ?_
      refine AllReadyH.cons rfl (fun K' hK' => ?_) AllReadyH.nil
      go_simp
      have hb6 : Below w5.heap.size w5 (w5.alloc (.cells #[.int .i64 kk.k, .int .i64 kk.n, .string kk.s, .int .i64 kk.a, .int .i64 y.k, .int .i64 y.n, .string y.s, .int .i64 y.a] 63)) := (Below.refl _ _).alloc (Nat.le_refl _) _
      refine hK'.out _ _ ⟨HB5.out.trans (hb6.mono HB5.out.size), HK5.out.below hb6⟩ (fun hHeld => ?_)
      clear hK'
      have l5 : qb < w5.heap.size := blk_lt HK5.out
      have hs5 := HB5.out.size
      refine wpAnyH_ready (rs := [11]) (by kernel_rfl) (by simp) ?_
      refine AllReadyH.cons rfl (fun K' hK' => ?_) AllReadyH.nil
      refine step_append_lies _ (by rfl) (.tmp 15) (.tmp 25) 59 (by rfl) w.heap.size 63 ip (.agg #[.int .i64 0, .int .i64 0, .string ⟨#[]⟩, .int .i64 0, .int .i64 0, .int .i64 0, .string ⟨#[]⟩, .int .i64 0]) 8 80 Try.underlying59 hpi hp0 hp1 hp2 (by rfl) (by omega) (.slice pa c pc) c (pairCells (K r) (fun c => atV at_ (X r c)) c) (by rfl) (HO5.out.alloc _) ⟨w5.heap.size, 0, none⟩ 1 1 [.int .i64 kk.k, .int .i64 kk.n, .string kk.s, .int .i64 kk.a, .int .i64 y.k, .int .i64 y.n, .string y.s, .int .i64 y.a] (by rfl) (by rfl) (World.news_of_block (heap_alloc_new w5 _)) (by intro u hu; simp at hu; rcases hu with rfl | rfl | rfl | rfl | rfl | rfl | rfl | rfl <;> rfl) (by omega) (by unfold maxLen; omega) (by omega) (by simp; omega) (w5.heap.size + 1) (by simp) ?_
      intro g cap w6 hown6 hgrow6 hat6 hlt6
      have hbel6 : Below w.heap.size (w5.alloc (.cells #[.int .i64 kk.k, .int .i64 kk.n, .string kk.s, .int .i64 kk.a, .int .i64 y.k, .int .i64 y.n, .string y.s, .int .i64 y.a] 63)) w6 := below_grown (HO5.out.alloc _) hgrow6 (by simp; omega)
      have HB6 : Hid (Below w.heap.size w w6) := (HB5.out.trans (hb6.mono HB5.out.size)).trans hbel6
      have HK6 : Hid (ValB w6 qb kk) := (hgrow6.block qb (by simp; omega) (fun e => by have := (HPK.out _ e.symm).2; omega)).trans (HK5.out.below hb6)
      have HO6 : Hid (w6.ownsRow w.heap.size 63 8 (.slice (some ⟨g, 0, none⟩) (c + 1) cap) (c + 1) (pairCells (K r) (fun c => atV at_ (X r c)) (c + 1))) := by
        show World.ownsRow _ _ _ _ _ _ _
        rw [pairCells_succ]
        simp only [HY.out, HKK.out]
        exact hown6
      refine hK'.out _ _ ⟨HB6.out, HK6.out⟩ (fun hHeld => ?_)
      clear hK' hown6 hgrow6 hat6 hlt6 hb6 hbel6 HB5 HK5 HO5
      simp only [Act.put, List.setIfInBounds_toArray, List.set_cons_zero, List.set_cons_succ, List.getElem_toArray, List.getElem_cons_zero, List.getElem_cons_succ]
      refine wpAnyH_ready (rs := [12]) (by kernel_rfl) (by simp) ?_
      refine AllReadyH.cons rfl (fun K' hK' => ?_) AllReadyH.nil
      go_simp
      refine hK'.out _ _ ⟨HB6.out, HK6.out⟩ (fun hHeld => ?_)
      clear hK' hHeld
      refine wpAnyH_done (by kernel_rfl) ?_ _
      go_wp2
      go_roundw
      case rel => exact ⟨c + 1, by omega, by go_num, HO6, HB6⟩
      case measure => simp [intOf]; omega
    · obtain rfl : c = L r := by omega
      go_wp2
      go_ret
      exact ⟨⟨_, rfl, HO.out⟩, HB.out⟩

end Go.Proofs.Ytagalpfmpdeifab
