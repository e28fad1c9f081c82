import Derived.Test.YtgflalfiopnmnaaS3
import Derived.Test.YtgflalfiopnmnaaS1
import Derived.Test.YtgflalfiopnmnaaS13
import Derived.Test.YtgflalfiopnmnaaS11
namespace Go.Proofs.Ytgflalfiopnmnaa
open Go.RowKit Vl

/-- What is there when the value at a key is put anew. -/
def putG {α : Type} (eqb : α → α → Bool) (v : α) (x : Value) : List (α × Value) → List (α × Value)
  | [] => []
  | (k, y) :: l => if eqb v k = true then (k, x) :: l else (k, y) :: putG eqb v x l

theorem find_gat {α : Type} {mt kt et : TypeId} {enc : α → Value} {ok : World → α → Prop} {eqb : α → α → Bool} {z : Value} (hK : Keyed mt kt et enc ok eqb z) (v : α) (w : World) (hv : ok w v) : ∀ (es : List MapEntry) (l : List (α × Value)) (i : Nat), (∀ p ∈ l, ok w p.1) → es.map (fun e => (e.key, e.val)) = l.map (fun p => (enc p.1, p.2)) →
    ∀ y, findG eqb v l = some y → ∃ j k, (Instr.findAsking kt (enc v) es i).run Try.prog w = .ok (some (i + j, y)) w ∧ l[j]? = some (k, y) ∧ eqb v k = true ∧ ∀ x, putG eqb v x l = l.set j (k, x)
  | [], [], i, _, _ => fun y h => by cases h
  | [], _ :: _, i, _, h => by simp at h
  | _ :: _, [], i, _, h => by simp at h
  | e :: es, (k, x) :: l, i, hl, h => by
    simp only [List.map_cons, List.cons.injEq, Prod.mk.injEq] at h
    obtain ⟨⟨h1, h2⟩, h3⟩ := h
    have ih := find_gat hK v w hv es l (i + 1) (fun p hp => hl p (List.mem_cons_of_mem _ hp)) h3
    have e1 : (Instr.findAsking kt (enc v) (e :: es) i).run Try.prog w = if eqb v k = true then .ok (some (i, e.val)) w else (Instr.findAsking kt (enc v) es (i + 1)).run Try.prog w := by
      conv => lhs; unfold Instr.findAsking
      rw [Sem.run_bind, h1, hK.eq _ _ _ hv (hl (k, x) (by simp))]
      simp only [Result.andThen_ok]
      cases eqb v k <;> simp
    rw [e1]
    unfold findG
    by_cases he : eqb v k = true
    · rw [if_pos he, if_pos he, h2]
      intro y hy
      cases hy
      exact ⟨0, k, rfl, rfl, he, fun x' => by unfold putG; rw [if_pos he]; rfl⟩
    · rw [if_neg he, if_neg he]
      intro y hy
      obtain ⟨j, k', a1, a2, a3, a4⟩ := ih y hy
      exact ⟨j + 1, k', by rw [a1, show i + 1 + j = i + (j + 1) by omega], by simpa using a2, a3, fun x' => by unfold putG; rw [if_neg he, a4 x']; rfl⟩

theorem findKey_gat {α : Type} {mt kt et : TypeId} {enc : α → Value} {ok : World → α → Prop} {eqb : α → α → Bool} {z : Value} (hK : Keyed mt kt et enc ok eqb z) (v : α) (w : World) (hv : ok w v) (es : List MapEntry) (l : List (α × Value)) (hl : ∀ p ∈ l, ok w p.1) (h : es.map (fun e => (e.key, e.val)) = l.map (fun p => (enc p.1, p.2))) :
    ∀ y, findG eqb v l = some y → ∃ j k, (Instr.findKey kt (enc v) es).run Try.prog w = .ok (some (j, y)) w ∧ l[j]? = some (k, y) ∧ eqb v k = true ∧ ∀ x, putG eqb v x l = l.set j (k, x) := by
  have hf := find_gat hK v w hv es l 0 hl h
  obtain ⟨d, hd, hn⟩ := hK.now
  have e1 : (Instr.findKey kt (enc v) es).run Try.prog w = (Instr.findAsking kt (enc v) es 0).run Try.prog w := by
    unfold Instr.findKey
    rw [Sem.run_bind, run_underlying hd]
    simp only [Result.andThen_ok]
    cases es with
    | nil => rfl
    | cons e es =>
      cases l with
      | nil => simp at h
      | cons p l =>
        simp only [List.map_cons, List.cons.injEq, Prod.mk.injEq] at h
        have : Instr.findNow d (enc v) (e :: es) 0 = none := by
          unfold Instr.findNow
          rw [h.1.1, hn]
        rw [this]
  rw [e1]
  intro y hy
  obtain ⟨j, k, a1, a2⟩ := hf y hy
  rw [Nat.zero_add] at a1
  exact ⟨j, k, a1, a2⟩

/-- The value at a key that is there is put anew. -/
theorem MapG.replace {α : Type} {mt kt et : TypeId} {enc : α → Value} {ok : World → α → Prop} {eqb : α → α → Bool} {z : Value} (hK : Keyed mt kt et enc ok eqb z) {w : World} {M : Nat} {l : List (α × Value)} (h : MapG enc w M l) (v : α) (y x : Value) (hv : ok w v) (hok : ∀ p ∈ l, ok w p.1) (hf : findG eqb v l = some y) (heq : ∀ k, eqb v k = true → enc k = enc v) (hsb : Instr.sameBits 10000 (enc v) (enc v) = true) :
    ∃ w', (Instr.mapUpdate mt (.map (some M)) (enc v) x).run Try.prog w = .ok () w' ∧ MapG enc w' M (putG eqb v x l) ∧ Only (fun k => k = M) w w' ∧ w'.heap.size = w.heap.size := by
  obtain ⟨es, clk, hb, hl⟩ := h
  obtain ⟨j, k, a1, a2, a3, a4⟩ := findKey_gat hK v w hv es.toList l hok hl y hf
  have hkey : (es[j]?).map (fun e => (e.key, e.val)) = some (enc v, y) := by
    have := congrArg (fun l => l[j]?) hl
    simp only [List.getElem?_map, a2, Option.map_some, Array.getElem?_toList] at this
    rw [this, heq k a3]
  obtain ⟨en, hen, hek⟩ : ∃ en, es[j]? = some en ∧ en.key = enc v := by
    cases h : es[j]? with
    | none => rw [h] at hkey; cases hkey
    | some en => rw [h] at hkey; simp at hkey; exact ⟨en, rfl, hkey.1⟩
  refine ⟨{ w with heap := w.heap.setIfInBounds M (.map (es.modify j fun e => { e with key := enc v, val := x }) clk) }, ?_, ?_, ?_, by simp⟩
  · simp [Instr.mapUpdate, run_underlying hK.und, MapKept.run_getObj_map hb, hK.chk, a1, Result.andThen, hen, hek, Instr.keyThatStays, hsb, MapKept.run_setObj_map _ hb]
  · refine ⟨_, _, by rw [Array.getElem?_setIfInBounds_self_of_lt (blk_lt hb)], ?_⟩
    rw [a4 x]
    apply List.ext_getElem?
    intro m
    have hm := congrArg (fun l => l[m]?) hl
    simp only [List.getElem?_map, Array.getElem?_toList] at hm
    simp only [List.getElem?_map, Array.getElem?_toList, Array.getElem?_modify, List.getElem?_set]
    by_cases e : j = m
    · subst e
      have hlt : j < l.length := (List.getElem?_eq_some_iff.1 a2).1
      simp [hen, hlt, heq k a3]
    · simp only [e, if_false]
      exact hm
  · refine ⟨rfl, rfl, rfl, by simp, fun k _ hk => ?_⟩
    show (w.heap.setIfInBounds M _)[k]? = w.heap[k]?
    rw [Array.getElem?_setIfInBounds_ne (fun e => hk e.symm)]

theorem findG_put {α : Type} {eqb : α → α → Bool} (hE : ∀ a b, eqb a b = true ↔ a = b) (v : α) (x : Value) : ∀ (l : List (α × Value)) (y : Value), findG eqb v l = some y → findG eqb v (putG eqb v x l) = some x
  | [], y, h => by cases h
  | (k, z) :: l, y, h => by
    unfold findG at h
    by_cases he : eqb v k = true
    · unfold putG
      rw [if_pos he]
      unfold findG
      rw [if_pos he]
    · rw [if_neg he] at h
      unfold putG
      rw [if_neg he]
      unfold findG
      rw [if_neg he]
      exact findG_put hE v x l y h
theorem findG_put_ne {α : Type} {eqb : α → α → Bool} (hE : ∀ a b, eqb a b = true ↔ a = b) {u v : α} (hne : u ≠ v) (x : Value) : ∀ (l : List (α × Value)), findG eqb u (putG eqb v x l) = findG eqb u l
  | [] => rfl
  | (k, z) :: l => by
    unfold putG
    by_cases he : eqb v k = true
    · have hk := (hE v k).1 he
      subst hk
      have hu : ¬ eqb u v = true := fun h => hne ((hE u v).1 h)
      rw [if_pos he]
      unfold findG
      rw [if_neg hu, if_neg hu]
    · rw [if_neg he]
      unfold findG
      rw [findG_put_ne hE hne x l]
theorem putG_keys {α : Type} {eqb : α → α → Bool} (v : α) (x : Value) : ∀ (l : List (α × Value)), (putG eqb v x l).map (·.1) = l.map (·.1)
  | [] => rfl
  | (k, z) :: l => by
    unfold putG
    by_cases he : eqb v k = true
    · rw [if_pos he]; rfl
    · rw [if_neg he]
      simp only [List.map_cons]
      rw [putG_keys v x l]

theorem findG_eq (v : V) : ∀ l, findG eqV v l = findV v l
  | [] => rfl
  | (k, x) :: l => by unfold findG findV; rw [findG_eq v l]

theorem val_keyed : Keyed 64 24 68 vAgg (fun _ _ => True) eqV .nilIface :=
  ⟨Try.underlying64, fun u v w _ _ => equal_val u v w, check_val, ⟨_, Try.underlying24, fun _ _ => rfl⟩, fun w => by kernel_rfl⟩

theorem same_val (v : V) : Instr.sameBits 10000 (vAgg v) (vAgg v) = true := by
  have e : ∀ b : ByteArray, (b == b) = true := fun b => by
    cases b with
    | mk d => first | (show (d == d) = true; simp) | simp [BEq.beq] | rfl
  simp [Instr.sameBits, e]

theorem MapIs.replace {w : World} {M : Nat} {l : List (V × Value)} (h : MapIs w M l) (v : V) (y x : Value) (hf : findV v l = some y) :
    ∃ w' l', (Instr.mapUpdate 64 (.map (some M)) (vAgg v) x).run Try.prog w = .ok () w' ∧ MapIs w' M l' ∧ findV v l' = some x ∧ (∀ u, u ≠ v → findV u l' = findV u l) ∧ Only (fun k => k = M) w w' ∧ w'.heap.size = w.heap.size := by
  obtain ⟨w', h1, h2, h3, h4⟩ := MapG.replace val_keyed (show MapG vAgg w M l from h) v y x trivial (fun _ _ => trivial) (by rw [findG_eq]; exact hf) (fun k hk => by rw [eqV_iff.1 hk]) (same_val v)
  exact ⟨w', _, h1, h2, by rw [← findG_eq]; exact findG_put (fun a b => eqV_iff) v x l y (by rw [findG_eq]; exact hf), fun u hu => by rw [← findG_eq, ← findG_eq]; exact findG_put_ne (fun a b => eqV_iff) hu x l, h3, h4⟩

end Go.Proofs.Ytgflalfiopnmnaa

namespace Go.Proofs.Ytgflalfiopnmnaa
open Go.RowKit Vl

theorem Tbs.agree {w : World} {n : Nat} {T M : Nat → Nat} {at_ : Nat → Int} {L L' : Nat → Nat} {K X K' X' : Nat → Nat → V} (h : Tbs w n T M at_ L K X) (hL : ∀ j, j < n → L j = L' j) (hK : ∀ j, j < n → K j = K' j) (hX : ∀ j, j < n → ∀ c, c < L j → X j c = X' j c) : Tbs w n T M at_ L' K' X' := by
  refine ⟨fun j hj => ?_, fun j hj => ?_, h.inj, fun j hj l hl v hv => h.gone j hj l hl v (by rw [hL j hj, hK j hj]; exact hv)⟩
  · rw [← hL j hj, ← hK j hj]; exact h.tab j hj
  · obtain ⟨l, h1, h2⟩ := h.map j hj
    exact ⟨l, h1, fun c hc => by rw [← hL j hj] at hc; rw [← hK j hj, ← hX j hj c hc]; exact h2 c hc⟩

/-- Maps of tables are changed alone. -/
abbrev Maps (n : Nat) (M : Nat → Nat) (w w' : World) : Prop := Only (fun k => ∃ j, j < n ∧ k = M j) w w'
theorem Tbs.cellM {w w' : World} {n : Nat} {T M : Nat → Nat} {at_ : Nat → Int} {L : Nat → Nat} {K X : Nat → Nat → V} (h : Tbs w n T M at_ L K X) (ho : Maps n M w w') {p : Addr} {v : Value} (hc : w.cell? p = some v) : w'.cell? p = some v := by
  refine ho.cell hc (fun ⟨j, hj, e⟩ => ?_)
  obtain ⟨l, ⟨es, clk, hb, _⟩, _⟩ := h.map j hj
  rw [← e] at hb
  simp [World.cell?, hb] at hc
theorem Tbs.blkM {w w' : World} {n : Nat} {T M : Nat → Nat} {at_ : Nat → Int} {L : Nat → Nat} {K X : Nat → Nat → V} (h : Tbs w n T M at_ L K X) (ho : Maps n M w w') {B : Nat} {cs : Array Value} {t : TypeId} {z : Nat × Nat} (hc : w.heap[B]? = some (.cells cs t z)) : w'.heap[B]? = some (.cells cs t z) := by
  rw [ho.block B (blk_lt hc) (fun ⟨j, hj, e⟩ => ?_)]
  · exact hc
  · obtain ⟨l, ⟨es, clk, hb, _⟩, _⟩ := h.map j hj
    rw [← e, hc] at hb
    cases hb

/-- The value at a key of a table is put anew. -/
theorem Tbs.putV {w w' : World} {n : Nat} {T M : Nat → Nat} {at_ : Nat → Int} {L : Nat → Nat} {K X : Nat → Nat → V} (h : Tbs w n T M at_ L K X) (hm : ∀ i j, i < n → j < n → M i = M j → i = j) {r c : Nat} (hr : r < n) (hk : ∀ b, b < L r → b ≠ c → K r b ≠ K r c) (x : V) {l l' : List (V × Value)} (hcl : c < L r) (hml : MapIs w (M r) l) (hl : ∀ c, c < L r → findV (K r c) l = some (ifv T (X r c))) (hM : MapIs w' (M r) l') (hf : findV (K r c) l' = some (ifv T x)) (hfo : ∀ u, u ≠ K r c → findV u l' = findV u l) (ho : Only (fun k => k = M r) w w') :
    Tbs w' n T M at_ L K (fun j b => if j = r ∧ b = c then x else X j b) ∧ Maps n M w w' := by
  have hM' : Maps n M w w' := ho.mono (fun k _ e => ⟨r, hr, e⟩)
  refine ⟨⟨fun j hj => ?_, fun j hj => ?_, h.inj, fun j hj l2 hl2 v hv => ?_⟩, hM'⟩
  rotate_left 2
  · by_cases e : j = r
    · subst e
      rw [hl2.uniq hM, hfo v (fun e => hv c hcl e.symm)]
      exact h.gone j hj l hml v hv
    · obtain ⟨l3, h1, _⟩ := h.map j hj
      exact h.gone j hj l2 (hl2.same (ho.block _ h1.lt (fun e' => e (hm j r hj hr e'))).symm) v hv
  · obtain ⟨ord, h1, h2⟩ := h.tab j hj
    refine ⟨ord, h.blkM hM' h1, ho.ownsB h2 (fun g hg e => ?_)⟩
    obtain ⟨_, cur, hc⟩ := owns_type h2 hg
    obtain ⟨l, ⟨es, clk, hb, _⟩, _⟩ := h.map r hr
    rw [← e, hc] at hb
    cases hb
  · by_cases e : j = r
    · subst e
      refine ⟨l', hM, fun b hb => ?_⟩
      by_cases e2 : b = c
      · subst e2
        rw [if_pos ⟨rfl, rfl⟩]
        exact hf
      · rw [if_neg (fun h => e2 h.2), hfo _ (hk b hb e2)]
        exact hl b hb
    · obtain ⟨l2, h1, h2⟩ := h.map j hj
      refine ⟨l2, h1.same (ho.block _ h1.lt (fun e' => e (hm j r hj hr e'))), fun b hb => ?_⟩
      rw [if_neg (fun h => e h.1)]
      exact h2 b hb

/-- Tables' values, those ahead of the place turned to the first of their class. -/
def mX (f : Nat → Nat) (X : Nat → Nat → V) (i q j c : Nat) : V := if j < i ∨ (j = i ∧ c < q) then fstV f (X j c) else X j c
theorem mX_at (f : Nat → Nat) (X : Nat → Nat → V) (i q : Nat) : mX f X i q i q = X i q := by unfold mX; rw [if_neg (by omega)]
theorem mX_next (f : Nat → Nat) (X : Nat → Nat → V) (i q : Nat) : (fun j b => if j = i ∧ b = q then fstV f (X i q) else mX f X i q j b) = mX f X i (q + 1) := by
  funext j b
  unfold mX
  by_cases e : j = i ∧ b = q
  · obtain ⟨rfl, rfl⟩ := e
    rw [if_pos ⟨rfl, rfl⟩, if_pos (by omega)]
  · rw [if_neg e]
    by_cases h : j < i ∨ (j = i ∧ b < q)
    · rw [if_pos h, if_pos (by omega)]
    · rw [if_neg h, if_neg (by omega)]

set_option maxHeartbeats 8000000 in
set_option maxRecDepth 100000 in
/-- 'impl.Shrink'. -/
theorem implShrink_any (u : V) (ta : Option Addr) (n cp TB TO : Nat) (A : Nat → Option Addr) (L C RB RO : Nat → Nat) (K X : Nat → Nat → V) (w : World) (hn : n ≤ 1048576) (HS : Hid (Small 1048576 n L K X)) (HT : Hid (TabsAt w ta n TB TO A L C RB RO K X)) :
    Calls Try.prog 9 #[.agg #[.int .i64 u.k, .int .i64 u.n, .string u.s, .int .i64 u.a, .slice ta n cp]] w fun e w' => ShrIs w w' e n u L K X ∧ Below w.heap.size w w' := by
  have A3 := alloc3 w (.cells #[.int .i64 u.k, .int .i64 u.n, .string u.s, .int .i64 u.a, .slice ta n cp] 27) (.cells #[.int .i64 0, .int .i64 0, .string ⟨#[]⟩, .int .i64 0, .slice none 0 0] 27) (.cells #[.int .i64 u.k, .int .i64 u.n, .string u.s, .int .i64 u.a, .slice ta n cp] 27)
  obtain ⟨w0, hw0⟩ : ∃ w0, w0 = ((w.alloc (.cells #[.int .i64 u.k, .int .i64 u.n, .string u.s, .int .i64 u.a, .slice ta n cp] 27)).alloc (.cells #[.int .i64 0, .int .i64 0, .string ⟨#[]⟩, .int .i64 0, .slice none 0 0] 27)).alloc (.cells #[.int .i64 u.k, .int .i64 u.n, .string u.s, .int .i64 u.a, .slice ta n cp] 27) := ⟨_, rfl⟩
  rw [← hw0] at A3
  have H0 : Hid (CanW w w0 u ta n cp) := ⟨A3.1, A3.2.1, A3.2.2.2.2⟩
  have HB0 : Hid (Below w.heap.size w w0) := A3.2.2.2.2
  obtain ⟨k0, k1, k2, k3, k4, _⟩ := cells5 A3.2.2.1
  have HZ0 : Hid (w0.heap.size = w.heap.size + 3) := A3.2.2.2.1
  obtain ⟨G, HGd⟩ : ∃ G : GrS, Hid (G = ⟨fun _ => u, fun _ => n, fun _ => L, fun _ => K, fun _ => X⟩) := ⟨_, rfl⟩
  have HGs : Hid (GsAt w0 1 (w.heap.size + 2) G (fun _ => ta) (fun _ => cp) (fun _ => TB) (fun _ => TO) (fun _ => A) (fun _ => C) (fun _ => RB) (fun _ => RO)) := by
    rw [HGd.out]
    refine ⟨fun q hq => ?_, fun q hq => ?_, fun q hq => ?_, fun q hq => ?_, fun q hq => ?_, fun _ _ => ⟨hn, HS.out⟩, fun _ _ => HT.out.below HB0.out⟩ <;> (obtain rfl : q = 0 := by omega) <;> assumption
  have hcf := classify_any 1 (by omega) (by omega) (w.heap.size + 2) G _ _ _ _ _ _ _ _ w0 HGs
  have hoff : G.off 1 = n := by rw [HGd.out]; simp [GrS.off]
  clear k0 k1 k2 k3 k4 A3
  go_enter Try.func9, Try.ntmps9
  go_wp2_with fail
  rw [← hw0]
  refine hcf.mono ?_
  clear hcf hw0
  rintro e w1 ⟨hcase, hb1⟩
  have H1 : Hid (CanW w w1 u ta n cp) := H0.out.below hb1
  rcases hcase with ⟨T, M, Lc, Kc, Xc, ls, f, rv, tv, cb, rfl, hd⟩ | ⟨⟨q, hq, hno⟩, rfl⟩
  · have hok : OkG n u L K X := by have := hd.cmb.ok 0 (by omega); rw [HGd.out] at this; exact this
    have e0 : sh (G.off 0) (G.U 0) = u := by rw [HGd.out]; exact sh_zero u
    obtain ⟨rb, rc, rfl, hr0⟩ := owns_cell hd.roots (k := 0) (y := ifv T (sh (G.off 0) (G.U 0))) (by simp)
    obtain ⟨va, vc, rfl, _⟩ := owns_form hd.tabs
    rw [e0] at hr0
    have htab := hd.cmb.tab 0 (by omega)
    rw [HGd.out] at htab
    simp only [GrS.off, Nat.zero_add, sh_zero] at htab
    have hL : ∀ j, j < n → Lc j = L j := fun j hj => (htab j hj).1
    have hK : ∀ j, j < n → Kc j = K j := fun j hj => (htab j hj).2.1
    have hX : ∀ j, j < n → Xc j = X j := fun j hj => funext (htab j hj).2.2
    have h1 := hd.cls
    have h2 := hd.srt
    have h3 := hd.is
    have h4 := hd.tbs
    have h5 := hd.ap
    have h6 := hd.tabs
    rw [hoff] at h1 h2 h3 h4 h5 h6
    have HCS : Hid ((∀ r, r < n → SortI (K r) (L r) (ls r)) ∧ IsCls n L (sK K ls) (sK X ls) f) := ⟨fun r hr => by rw [← hK r hr, ← hL r hr]; exact h2 r hr, h3.agree hL (fun j hj => by unfold sK; rw [hK j hj]) (fun j hj => by unfold sK; rw [hX j hj])⟩
    have hT1 : Tbs w1 n T M (fun j => (j : Nat)) L (sK K ls) (sK X ls) := h4.agree hL (fun j hj => by unfold sK; rw [hK j hj]) (fun j hj c _ => by unfold sK; rw [hX j hj])
    have HAp : Hid (∀ j, j < n → w.heap.size + 2 ≤ T j ∧ w.heap.size + 2 ≤ M j) := show ∀ j, _ from fun j hj => ⟨by have := h5.lo j hj; have := HB0.out.size; omega, by have := h5.mlo j hj; have := HB0.out.size; omega⟩
    have HMi : Hid (∀ i j, i < n → j < n → M i = M j → i = j) := h5.mone
    have HOk : Hid (OkG n u L K X) := hok
    obtain ⟨tb, hva, hrow⟩ : ∃ tb, (0 < n → va = some ⟨tb, 0, none⟩) ∧ ∀ j, j < n → w1.cell? ⟨tb, j, none⟩ = some (ptr (T j)) := by
      by_cases h0 : 0 < n
      · obtain ⟨g, cap, e, _⟩ := h6.form h0
        cases e
        refine ⟨g, fun _ => rfl, fun j hj => ?_⟩
        obtain ⟨g', cap', e', h⟩ := owns_cell h6 (k := j) (y := ptr (T j)) (by simp [hj])
        cases e'
        exact h
      · exact ⟨0, fun h => absurd h h0, fun j hj => by omega⟩
    obtain ⟨w2, hw2⟩ : ∃ w2, w2 = w1.alloc (.cells #[.slice (some ⟨rb, 0, none⟩) 1 rc, .slice va n vc, .slice (some ⟨cb, 0, none⟩) n n] 60) := ⟨_, rfl⟩
    have hb2 : Below w1.heap.size w1 w2 := by rw [hw2]; exact (Below.refl _ _).alloc (Nat.le_refl _) _
    have H2 : Hid (CanW w w2 u ta n cp) := H1.out.below hb2
    have hblk2 : w2.heap[w1.heap.size]? = some (.cells #[.slice (some ⟨rb, 0, none⟩) 1 rc, .slice va n vc, .slice (some ⟨cb, 0, none⟩) n n] 60 (0, 0)) := by rw [hw2]; exact heap_alloc_new _ _
    obtain ⟨cc, hcc⟩ : ∃ cc, w1.heap.size = cc := ⟨_, rfl⟩
    rw [hcc] at hblk2
    have HT2 : Hid (Tbs w2 n T M (fun j => (j : Nat)) L (sK K ls) (sK X ls)) := hT1.below hb2
    have HCl : Hid (w2.heap[cc]? = some (.cells #[.slice (some ⟨rb, 0, none⟩) 1 rc, .slice va n vc, .slice (some ⟨cb, 0, none⟩) n n] 60 (0, 0))) := hblk2
    have HRt : Hid (∀ j, j < n → w2.cell? ⟨tb, j, none⟩ = some (ptr (T j))) := show ∀ j, _ from fun j hj => (hb2.cell (World.block_lt_of_cell? _ _ (hrow j hj))).trans (hrow j hj)
    have HRc : Hid (∀ j, j < n → w2.cell? ⟨cb, j, none⟩ = some (.int .i64 (f j : Nat))) := show ∀ j, _ from fun j hj => (hb2.cell (World.block_lt_of_cell? _ _ (h1.cell hj))).trans (h1.cell hj)
    have HR0 : Hid (w2.cell? ⟨rb, 0, none⟩ = some (ifv T u)) := (hb2.cell (World.block_lt_of_cell? _ _ hr0)).trans hr0
    have HVA : Hid (0 < n → va = some ⟨tb, 0, none⟩) := hva
    have hn2 : n ≤ 200 := hok.len
    rw [hoff]
    clear hd h1 h2 h3 h4 h5 h6 hT1 hrow hr0 htab hL hK hX e0 hb2 hblk2 HGs HGd hoff hva hok H0 H1 hb1
    obtain ⟨c0, c1, c2, _⟩ := three_at HCl.out
    go_wp2
    try rw [hcc] at hw2
    try rw [hcc]
    rw [← hw2]
    clear hw2 hcc c0 c1 c2
    go_loopw [21] (fun ii wr => ∃ i : Nat, i ≤ n ∧ ii = .int .i64 i ∧ Hid (Tbs wr n T M (fun j => (j : Nat)) L (sK K ls) (mX f (sK X ls) i 0)) ∧ Hid (Maps n M w2 wr)) (fun ii _ => n - (intOf ii).toNat)
    case atStart => exact ⟨0, Nat.zero_le _, rfl, HT2.out.agree (fun _ _ => rfl) (fun _ _ => rfl) (fun j _ c _ => by unfold mX; rw [if_neg (by omega)]), Only.refl _ _⟩
    case round =>
      obtain ⟨i, hi, rfl, HTr, HMr⟩ := hrel
      by_cases hlt : i < n
      · obtain rfl := HVA.out (by omega)
        have t0 := HT2.out.cellM HMr.out (HRt.out i hlt)
        obtain ⟨ord, hTb, hOr⟩ := HTr.out.tab i hlt
        obtain ⟨hform, hVals⟩ := owns_keys hOr
        obtain ⟨ka, hka⟩ : ∃ ka, slA ord = ka := ⟨_, rfl⟩
        obtain ⟨kb, hkb⟩ : ∃ kb, slB ord = kb := ⟨_, rfl⟩
        obtain ⟨kc, hkc⟩ : ∃ kc, slC ord = kc := ⟨_, rfl⟩
        rw [hka, hkc] at hform
        rw [hka, hkb] at hVals
        rw [hform] at hTb
        obtain ⟨l, hl⟩ : ∃ l, L i = l := ⟨_, rfl⟩
        have hl100 : l ≤ 100 := by rw [← hl]; exact (HOk.out.all i hlt).len
        obtain ⟨wi, hwi⟩ : ∃ wi, wi = wr := ⟨_, rfl⟩
        have HVi : Hid (ValsAt wi ka l kb 0 (sK K ls i)) := by rw [hwi, ← hl]; exact hVals
        have HTi : Hid (Tbs wi n T M (fun j => (j : Nat)) L (sK K ls) (mX f (sK X ls) i 0)) := by rw [hwi]; exact HTr.out
        have HMi0 : Hid (Maps n M w2 wi) := by rw [hwi]; exact HMr.out
        obtain ⟨x0, x1, x2, _⟩ := hTb.cells
        rw [hl] at x2
        clear hOr hVals hform hka hkb hkc HTr HMr hTb
        go_wp2
        rw [← hwi]
        clear hwi x0 x1 x2 t0
        go_loopw [30] (fun ii wq => ∃ c : Nat, c ≤ l ∧ ii = .int .i64 c ∧ Hid (Tbs wq n T M (fun j => (j : Nat)) L (sK K ls) (mX f (sK X ls) i c)) ∧ Hid (Maps n M wi wq)) (fun ii _ => l - (intOf ii).toNat)
        case atStart => exact ⟨0, Nat.zero_le _, rfl, HTi, Only.refl _ _⟩
        case round =>
          obtain ⟨c, hc, rfl, HTq, HMq⟩ := hrel
          have HMw : Hid (Maps n M w2 wr) := HMi0.out.trans HMq.out
          by_cases hlc : c < l
          · obtain rfl := HVi.out.top (by omega)
            obtain ⟨k0, k1, k2, k3⟩ := HVi.out.cells hlc
            simp only [Nat.zero_add] at k0 k1 k2 k3
            replace k0 := HTi.out.cellM HMq.out k0
            replace k1 := HTi.out.cellM HMq.out k1
            replace k2 := HTi.out.cellM HMq.out k2
            replace k3 := HTi.out.cellM HMq.out k3
            obtain ⟨kk, HKK⟩ : ∃ kk, Hid (sK K ls i c = kk) := ⟨_, rfl⟩
            rw [HKK.out] at k0 k1 k2 k3
            obtain ⟨wk, hwk⟩ : ∃ wk, wk = wr.alloc (.cells #[.int .i64 kk.k, .int .i64 kk.n, .string kk.s, .int .i64 kk.a] 24) := ⟨_, rfl⟩
            have hbk : Below wr.heap.size wr wk := by rw [hwk]; exact (Below.refl _ _).alloc (Nat.le_refl _) _
            have hKb : ValB wk wr.heap.size kk := by rw [hwk]; exact heap_alloc_new _ _
            obtain ⟨qb, hqb⟩ : ∃ qb, wr.heap.size = qb := ⟨_, rfl⟩
            rw [hqb] at hKb
            have HTk : Hid (Tbs wk n T M (fun j => (j : Nat)) L (sK K ls) (mX f (sK X ls) i c)) := HTq.out.below hbk
            have HMk : Hid (Maps n M wi wk) := HMq.out.trans (Only.below hbk)
            have HMwk : Hid (Maps n M w2 wk) := HMw.out.trans (Only.below hbk)
            go_wp2
            rw [← hwk]
            try rw [hqb]
            clear hwk k0 k1 k2 k3 hbk HTq HMq HMw hqb
            obtain ⟨m, hm⟩ : ∃ m, M i = m := ⟨_, rfl⟩
            obtain ⟨s0, s1, s2, s3, _⟩ := cells4 hKb
            obtain ⟨c0, c1, c2, _⟩ := three_at (HT2.out.blkM HMwk.out HCl.out)
            obtain ⟨ord', hTb', _⟩ := HTk.out.tab i hlt
            obtain ⟨_, x1, _, _⟩ := hTb'.cells
            obtain ⟨lm, hMp, hfind⟩ := HTk.out.map i hlt
            have hiv : isV n (sK X ls i c) = true := good_of HOk.out i hlt _ ((HCS.out.1 i hlt).lt (by omega))
            have hfc := hfind c (by omega)
            rw [mX_at, HKK.out] at hfc
            have HNM : Hid (qb ≠ m ∧ cc ≠ m ∧ T i ≠ m) := by
              rw [← hm]
              obtain ⟨es, clk, hb, _⟩ := hMp
              refine ⟨fun e => ?_, fun e => ?_, fun e => ?_⟩
              · unfold ValB at hKb; rw [e, hb] at hKb; cases hKb
              · have := HT2.out.blkM HMwk.out HCl.out; rw [e, hb] at this; cases this
              · unfold TabB at hTb'; rw [e, hb] at hTb'; cases hTb'
            rw [hm] at x1
            have hcell : ∀ {p : Addr} {v : Value}, wk.cell? p = some v → p.block ≠ m → ∀ x, Only (fun k => k = m) wk x → x.cell? p = some v := fun hc hp x ho => ho.cell hc hp
            replace s0 := hcell s0 HNM.out.1
            replace s1 := hcell s1 HNM.out.1
            replace s2 := hcell s2 HNM.out.1
            replace s3 := hcell s3 HNM.out.1
            replace c0 := hcell c0 HNM.out.2.1
            replace c1 := hcell c1 HNM.out.2.1
            replace c2 := hcell c2 HNM.out.2.1
            replace x1 := hcell x1 HNM.out.2.2
            obtain ⟨xt, xy, hxv⟩ := ifv_form T (sK X ls i c)
            rw [hxv] at hfc
            have HLK : Hid ((Instr.lookup 64 (.map (some m)) (.agg #[.int .i64 kk.k, .int .i64 kk.n, .string kk.s, .int .i64 kk.a]) false).run Try.prog wk.drew = .ok (.iface xt xy) wk.drew) := by
              have := ((hMp.same (w' := wk.drew) rfl).lookup kk).2
              rw [hfc, hm] at this
              exact this
            have HMP : Hid (MapIs wk (M i) lm) := hMp
            have HFD : Hid (∀ b, b < L i → findV (sK K ls i b) lm = some (ifv T (mX f (sK X ls) i c i b))) := hfind
            have HFC : Hid (findV kk lm = some (.iface xt xy)) := hfc
            have hcall := first_any n 1 rc vc tb cb T M L (sK K ls) (mX f (sK X ls) i c) f (some ⟨rb, 0, none⟩) (some ⟨tb, 0, none⟩) (sK X ls i c) wk.drew hiv (by omega) HCS.out.2.low (fun _ => rfl) (show ∀ j, _ from fun j hj => HT2.out.cellM HMwk.out (HRt.out j hj)) (show ∀ j, _ from fun j hj => HT2.out.cellM HMwk.out (HRc.out j hj)) (HTk.out.below (Below.refl _ _).drew)
            rw [hxv] at hcall
            obtain ⟨yt, yy, hyv⟩ := ifv_form T (fstV f (sK X ls i c))
            rw [hyv] at hcall
            have HYV : Hid (ifv T (fstV f (sK X ls i c)) = .iface yt yy) := hyv
            clear hKb hTb' hMp hfind hfc hxv hyv hcell hiv
            refine wp_region_held_drew (S := fun x => Only (fun k => k = m) wk x) (by kernel_rfl) (Only.below (Below.refl _ _).drew) (fun hHeld => ?_)
            refine wpAnyH_take (i := 0) (v := .pointer (some ⟨T i, 0, none⟩)) rfl (by kernel_rfl) (by kernel_rfl) (by kernel_rfl) (fun _ _ _ h => h) (Or.inl ⟨by rfl, fun w hSw => ?_⟩) hHeld ?_
            · first | rfl | go_simp
            simp only [Act.put, List.setIfInBounds_toArray, List.set_cons_zero, List.set_cons_succ, List.getElem_toArray, List.getElem_cons_zero]
            refine wpAnyH_take (i := 1) (v := .pointer (some ⟨T i, 0, none⟩)) rfl (by kernel_rfl) (by kernel_rfl) (by kernel_rfl) (fun _ _ _ h => h) (Or.inl ⟨by rfl, fun w hSw => ?_⟩) hHeld ?_
            · first | rfl | go_simp
            simp only [Act.put, List.setIfInBounds_toArray, List.set_cons_zero, List.set_cons_succ, List.getElem_toArray, List.getElem_cons_zero, List.getElem_cons_succ]
            refine wpAnyH_take (i := 2) (v := .pointer (some ⟨T i, 1, none⟩)) rfl (by kernel_rfl) (by kernel_rfl) (by kernel_rfl) (fun _ _ _ h => h) (Or.inl ⟨by rfl, fun w hSw => ?_⟩) hHeld ?_
            · first | rfl | go_simp
            simp only [Act.put, List.setIfInBounds_toArray, List.set_cons_zero, List.set_cons_succ, List.getElem_toArray, List.getElem_cons_zero, List.getElem_cons_succ]
            refine wpAnyH_take (i := 3) (v := .map (some m)) rfl (by kernel_rfl) (by kernel_rfl) (by kernel_rfl) (fun _ _ _ h => h) (Or.inl ⟨by rfl, fun w hSw => ?_⟩) hHeld ?_
            · have q0 := x1 w hSw; first | rfl | go_simp
            simp only [Act.put, List.setIfInBounds_toArray, List.set_cons_zero, List.set_cons_succ, List.getElem_toArray, List.getElem_cons_zero, List.getElem_cons_succ]
            refine wpAnyH_take (i := 4) (v := .agg #[.int .i64 kk.k, .int .i64 kk.n, .string kk.s, .int .i64 kk.a]) rfl (by kernel_rfl) (by kernel_rfl) (by kernel_rfl) (fun _ _ _ h => h) (Or.inl ⟨by rfl, fun w hSw => ?_⟩) hHeld ?_
            · have q0 := s0 w hSw; have q1 := s1 w hSw; have q2 := s2 w hSw; have q3 := s3 w hSw; first | rfl | go_simp
            simp only [Act.put, List.setIfInBounds_toArray, List.set_cons_zero, List.set_cons_succ, List.getElem_toArray, List.getElem_cons_zero, List.getElem_cons_succ]
            refine wpAnyH_take (i := 5) (v := .agg #[.slice (some ⟨rb, 0, none⟩) 1 rc, .slice (some ⟨tb, 0, none⟩) n vc, .slice (some ⟨cb, 0, none⟩) n n]) rfl (by kernel_rfl) (by kernel_rfl) (by kernel_rfl) (fun _ _ _ h => h) (Or.inl ⟨by rfl, fun w hSw => ?_⟩) hHeld ?_
            · have q0 := c0 w hSw; have q1 := c1 w hSw; have q2 := c2 w hSw; first | rfl | go_simp
            simp only [Act.put, List.setIfInBounds_toArray, List.set_cons_zero, List.set_cons_succ, List.getElem_toArray, List.getElem_cons_zero, List.getElem_cons_succ]
            refine wpAnyH_take (i := 6) (v := .pointer (some ⟨T i, 0, none⟩)) rfl (by kernel_rfl) (by kernel_rfl) (by kernel_rfl) (fun _ _ _ h => h) (Or.inl ⟨by rfl, fun w hSw => ?_⟩) hHeld ?_
            · first | rfl | go_simp
            simp only [Act.put, List.setIfInBounds_toArray, List.set_cons_zero, List.set_cons_succ, List.getElem_toArray, List.getElem_cons_zero, List.getElem_cons_succ]
            refine wpAnyH_take (i := 7) (v := .pointer (some ⟨T i, 0, none⟩)) rfl (by kernel_rfl) (by kernel_rfl) (by kernel_rfl) (fun _ _ _ h => h) (Or.inl ⟨by rfl, fun w hSw => ?_⟩) hHeld ?_
            · first | rfl | go_simp
            simp only [Act.put, List.setIfInBounds_toArray, List.set_cons_zero, List.set_cons_succ, List.getElem_toArray, List.getElem_cons_zero, List.getElem_cons_succ]
            refine wpAnyH_take (i := 8) (v := .pointer (some ⟨T i, 1, none⟩)) rfl (by kernel_rfl) (by kernel_rfl) (by kernel_rfl) (fun _ _ _ h => h) (Or.inl ⟨by rfl, fun w hSw => ?_⟩) hHeld ?_
            · first | rfl | go_simp
            simp only [Act.put, List.setIfInBounds_toArray, List.set_cons_zero, List.set_cons_succ, List.getElem_toArray, List.getElem_cons_zero, List.getElem_cons_succ]
            refine wpAnyH_take (i := 9) (v := .map (some m)) rfl (by kernel_rfl) (by kernel_rfl) (by kernel_rfl) (fun _ _ _ h => h) (Or.inl ⟨by rfl, fun w hSw => ?_⟩) hHeld ?_
            · have q0 := x1 w hSw; first | rfl | go_simp
            simp only [Act.put, List.setIfInBounds_toArray, List.set_cons_zero, List.set_cons_succ, List.getElem_toArray, List.getElem_cons_zero, List.getElem_cons_succ]
            refine wpAnyH_take (i := 10) (v := .agg #[.int .i64 kk.k, .int .i64 kk.n, .string kk.s, .int .i64 kk.a]) rfl (by kernel_rfl) (by kernel_rfl) (by kernel_rfl) (fun _ _ _ h => h) (Or.inl ⟨by rfl, fun w hSw => ?_⟩) hHeld ?_
            · have q0 := s0 w hSw; have q1 := s1 w hSw; have q2 := s2 w hSw; have q3 := s3 w hSw; first | rfl | go_simp
            simp only [Act.put, List.setIfInBounds_toArray, List.set_cons_zero, List.set_cons_succ, List.getElem_toArray, List.getElem_cons_zero, List.getElem_cons_succ]
            refine wpAnyH_ready (rs := [11]) (by kernel_rfl) (by simp) ?_
            refine AllReadyH.cons rfl (fun K' hK' => ?_) AllReadyH.nil
            have hlk := HLK.out
            go_simp
            refine hK'.out _ _ hHeld (fun hHeld => ?_)
            clear hK' hlk HLK
            refine wpAnyH_ready (rs := [12]) (by kernel_rfl) (by simp) ?_
            refine AllReadyH.cons rfl (fun K' hK' => ?_) AllReadyH.nil
            go_simp
            refine hcall.mono ?_
            clear hcall
            rintro e w5 ⟨rfl, hb5⟩
            have hb5' : Below wk.heap.size wk w5 := ⟨hb5.os, hb5.tape, hb5.output, hb5.size, hb5.block⟩
            refine hK'.out _ _ (Only.below hb5') (fun hHeld => ?_)
            clear hK' hb5 hHeld
            obtain ⟨w6, l6, hu6, hM6, hf6, hfo6, hO6, hs6⟩ := (HMP.out.same (hb5'.block _ HMP.out.lt)).replace kk (.iface xt xy) (.iface yt yy) HFC.out
            have hput := (HTk.out.below hb5').putV HMi.out (r := i) (c := c) hlt (fun b hb hne e => (HOk.out.all i hlt).once ((HCS.out.1 i hlt).lt hb) ((HCS.out.1 i hlt).lt (show c < L i by omega)) (fun e' => by
                rcases Nat.lt_or_gt_of_ne hne with h' | h'
                · exact (HCS.out.1 i hlt).ne h' (by omega) e'
                · exact (HCS.out.1 i hlt).ne h' hb e'.symm) e) (fstV f (sK X ls i c)) (show c < L i by omega) (HMP.out.same (hb5'.block _ HMP.out.lt)) HFD.out hM6 (by rw [HKK.out, HYV.out]; exact hf6) (by rw [HKK.out]; exact hfo6) hO6
            rw [mX_next] at hput
            have HT6 : Hid (Tbs w6 n T M (fun j => (j : Nat)) L (sK K ls) (mX f (sK X ls) i (c + 1))) := hput.1
            have HM6 : Hid (Maps n M wi w6) := (HMk.out.trans (Only.below hb5')).trans hput.2
            have hS6 : Only (fun k => k = m) wk w6 := (Only.below hb5').trans (by rw [← hm]; exact hO6)
            rw [hm] at hu6
            clear hput hM6 hf6 hfo6 hO6 hs6 hb5'
            refine wpAnyH_ready (rs := [13]) (by kernel_rfl) (by simp) ?_
            refine AllReadyH.cons rfl (fun K' hK' => ?_) AllReadyH.nil
            go_simp
            refine hK'.out _ _ hS6 (fun hHeld => ?_)
            clear hK' hHeld hu6 hS6
            refine wpAnyH_done (by kernel_rfl) ?_ _
            go_wp2
            go_roundw
            case rel => exact ⟨c + 1, by omega, by go_num, HT6, HM6⟩
            case measure => simp [intOf]; omega
          · obtain rfl : c = l := by omega
            have HT' : Hid (Tbs wr n T M (fun j => (j : Nat)) L (sK K ls) (mX f (sK X ls) (i + 1) 0)) := HTq.out.agree (fun _ _ => rfl) (fun _ _ => rfl) (fun j hj b hb => by
              unfold mX
              by_cases e : j < i ∨ (j = i ∧ b < c)
              · rw [if_pos e, if_pos (by omega)]
              · rw [if_neg e, if_neg (fun h => e (by
                  rcases h with h | h
                  · by_cases e2 : j = i
                    · subst e2; right; exact ⟨rfl, by omega⟩
                    · left; omega
                  · omega))])
            go_wp2
            go_roundw
            case rel => exact ⟨i + 1, by omega, by go_num, HT', HMw⟩
            case measure => simp [intOf]; omega
      · obtain rfl : i = n := by omega
        have HTf : Hid (Tbs wr i T M (fun j => (j : Nat)) L (sK K ls) (fX X ls f)) := HTr.out.agree (fun _ _ => rfl) (fun _ _ => rfl) (fun j hj b hb => by unfold mX fX; rw [if_pos (Or.inl hj)])
        have HCr : Hid (CanW w wr u ta i cp) := H2.out.only HMr.out (fun k ⟨j, hj, e⟩ => by have := (HAp.out j hj).2; omega)
        obtain ⟨c0, c1, c2, _⟩ := three_at (HT2.out.blkM HMr.out HCl.out)
        have r0 := HT2.out.cellM HMr.out HR0.out
        obtain ⟨ut, uy, hxv⟩ := ifv_form T u
        rw [hxv] at r0
        have hcall := first_any i 1 rc vc tb cb T M L (sK K ls) (fX X ls f) f (some ⟨rb, 0, none⟩) va u wr.drew HOk.out.root (by omega) HCS.out.2.low HVA.out (show ∀ j, _ from fun j hj => HT2.out.cellM HMr.out (HRt.out j hj)) (show ∀ j, _ from fun j hj => HT2.out.cellM HMr.out (HRc.out j hj)) (HTf.out.below (Below.refl _ _).drew)
        rw [hxv] at hcall
        have HOs : Hid (OkG i (fstV f u) L (sK K ls) (fX X ls f)) := okG_shr HOk.out HCS.out.1 HCS.out.2.low
        obtain ⟨S, HSo⟩ : ∃ S, Hid (order i (fstV f u) L (fX X ls f) = S) := ⟨_, rfl⟩
        obtain ⟨ru, HRU⟩ : ∃ ru, Hid (renum S (fstV f u) = ru) := ⟨_, rfl⟩
        obtain ⟨yt, yy, hyv⟩ := ifv_form T (fstV f u)
        have HCAN : Hid (∀ w', Below wr.heap.size wr w' → Calls Try.prog 37 #[.iface yt yy] w' fun e w'' => (∃ (tv : Value) (PV : Nat → Value) (base : Nat), w'.heap.size ≤ base ∧ e = .returned (.agg #[.int .i64 ru.k, .int .i64 ru.n, .string ru.s, .int .i64 ru.a, tv]) ∧ OTab w'' base tv S.length PV (cL S L) (cK S (sK K ls)) (cX S (fX X ls f))) ∧ Only (fun k => ∃ j, j < i ∧ k = T j) w' w'') := show ∀ _, _ from fun w' hb => by
          have h := canonical_any i T M (fun j => (j : Nat)) L (sK K ls) (fX X ls f) (fstV f u) w' (by omega) (show ∀ r, _ from fun r hr => (HOk.out.all r hr).len) (good_of HOs.out) HOs.out.root (HTf.out.below hb) S HSo
          rw [HRU.out, hyv] at h
          exact h
        rw [hyv] at hcall
        have HNT : Hid (∀ j, j < i → T j ≠ cc ∧ T j ≠ rb ∧ w.heap.size + 2 ≤ T j) := show ∀ j, _ from fun j hj => by
          obtain ⟨ord, h1, _⟩ := HTf.out.tab j hj
          refine ⟨fun e => ?_, fun e => ?_, (HAp.out j hj).1⟩
          · have := HT2.out.blkM HMr.out HCl.out
            unfold TabB at h1
            rw [e, this] at h1
            cases h1
          · have h2 := h1.cells.1
            rw [e] at h2
            have h3 := HT2.out.cellM HMr.out HR0.out
            rw [h2, hxv] at h3
            cases h3
        have HRl : Hid (rb < wr.heap.size ∧ rb ≠ w.heap.size + 1 ∧ cc ≠ w.heap.size + 1 ∧ cc < wr.heap.size) := by
          have hres := HCr.out.res
          refine ⟨World.block_lt_of_cell? _ _ r0, fun e => ?_, fun e => ?_, blk_lt (HT2.out.blkM HMr.out HCl.out)⟩
          · have h5 := (cells5 hres).1
            have h6 := r0
            rw [e, h5] at h6
            cases h6
          · have := HT2.out.blkM HMr.out HCl.out
            rw [e] at this
            have hres' : wr.heap[w.heap.size + 1]? = _ := hres
            rw [hres'] at this
            cases this
        have hs1 : w.heap.size + 1 < wr.heap.size := blk_lt HCr.out.res
        clear hxv hyv HTr HMr HT2 HTf
        have c0d : wr.drew.cell? ⟨cc, 0, none⟩ = _ := c0
        have c1d : wr.drew.cell? ⟨cc, 1, none⟩ = _ := c1
        have c2d : wr.drew.cell? ⟨cc, 2, none⟩ = _ := c2
        have r0d : wr.drew.cell? ⟨rb, 0, none⟩ = _ := r0
        go_wp2
        refine wp_region_held_drew (S := fun x => x.cell? ⟨cc, 0, none⟩ = some (.slice (some ⟨rb, 0, none⟩) 1 rc) ∧ x.cell? ⟨cc, 1, none⟩ = some (.slice va i vc) ∧ x.cell? ⟨cc, 2, none⟩ = some (.slice (some ⟨cb, 0, none⟩) i i) ∧ x.cell? ⟨rb, 0, none⟩ = some (.iface ut uy)) (by kernel_rfl) ⟨c0d, c1d, c2d, r0d⟩ (fun hHeld => ?_)
        clear c0d c1d c2d r0d c0 c1 c2 r0
        refine wpAnyH_take (i := 0) (v := .agg #[.slice (some ⟨rb, 0, none⟩) 1 rc, .slice va i vc, .slice (some ⟨cb, 0, none⟩) i i]) rfl (by kernel_rfl) (by kernel_rfl) (by kernel_rfl) (fun _ _ _ h => h) (Or.inl ⟨by rfl, fun w hSw => ?_⟩) hHeld ?_
        · have q0 := hSw.1; have q1 := hSw.2.1; have q2 := hSw.2.2.1; first | rfl | go_simp
        simp only [Act.put, List.setIfInBounds_toArray, List.set_cons_zero, List.set_cons_succ, List.getElem_toArray, List.getElem_cons_zero]
        refine wpAnyH_take (i := 1) (v := .pointer (some ⟨cc, 0, none⟩)) rfl (by kernel_rfl) (by kernel_rfl) (by kernel_rfl) (fun _ _ _ h => h) (Or.inl ⟨by rfl, fun w hSw => ?_⟩) hHeld ?_
        · first | rfl | go_simp
        simp only [Act.put, List.setIfInBounds_toArray, List.set_cons_zero, List.set_cons_succ, List.getElem_toArray, List.getElem_cons_zero, List.getElem_cons_succ]
        refine wpAnyH_take (i := 2) (v := .slice (some ⟨rb, 0, none⟩) 1 rc) rfl (by kernel_rfl) (by kernel_rfl) (by kernel_rfl) (fun _ _ _ h => h) (Or.inl ⟨by rfl, fun w hSw => ?_⟩) hHeld ?_
        · have q0 := hSw.1; first | rfl | go_simp
        simp only [Act.put, List.setIfInBounds_toArray, List.set_cons_zero, List.set_cons_succ, List.getElem_toArray, List.getElem_cons_zero, List.getElem_cons_succ]
        refine wpAnyH_take (i := 3) (v := .pointer (some ⟨rb, 0, none⟩)) rfl (by kernel_rfl) (by kernel_rfl) (by kernel_rfl) (fun _ _ _ h => h) (Or.inl ⟨by rfl, fun w hSw => ?_⟩) hHeld ?_
        · first | rfl | go_simp
        simp only [Act.put, List.setIfInBounds_toArray, List.set_cons_zero, List.set_cons_succ, List.getElem_toArray, List.getElem_cons_zero, List.getElem_cons_succ]
        refine wpAnyH_take (i := 4) (v := .iface ut uy) rfl (by kernel_rfl) (by kernel_rfl) (by kernel_rfl) (fun _ _ _ h => h) (Or.inl ⟨by rfl, fun w hSw => ?_⟩) hHeld ?_
        · have q0 := hSw.2.2.2; first | rfl | go_simp
        simp only [Act.put, List.setIfInBounds_toArray, List.set_cons_zero, List.set_cons_succ, List.getElem_toArray, List.getElem_cons_zero, List.getElem_cons_succ]
        refine wpAnyH_ready (rs := [5]) (by kernel_rfl) (by simp) ?_
        refine AllReadyH.cons rfl (fun K' hK' => ?_) AllReadyH.nil
        go_simp
        refine hcall.mono ?_
        clear hcall
        rintro e w5 ⟨rfl, hb5⟩
        have hb5' : Below wr.heap.size wr w5 := ⟨hb5.os, hb5.tape, hb5.output, hb5.size, hb5.block⟩
        have hS5 : w5.cell? ⟨cc, 0, none⟩ = some (.slice (some ⟨rb, 0, none⟩) 1 rc) ∧ w5.cell? ⟨cc, 1, none⟩ = some (.slice va i vc) ∧ w5.cell? ⟨cc, 2, none⟩ = some (.slice (some ⟨cb, 0, none⟩) i i) ∧ w5.cell? ⟨rb, 0, none⟩ = some (.iface ut uy) := ⟨(hb5.cell (p := ⟨cc, 0, none⟩) HRl.out.2.2.2).trans hHeld.1, (hb5.cell (p := ⟨cc, 1, none⟩) HRl.out.2.2.2).trans hHeld.2.1, (hb5.cell (p := ⟨cc, 2, none⟩) HRl.out.2.2.2).trans hHeld.2.2.1, (hb5.cell (p := ⟨rb, 0, none⟩) HRl.out.1).trans hHeld.2.2.2⟩
        refine hK'.out _ _ hS5 (fun hHeld => ?_)
        have HC5 : Hid (CanW w w5 u ta i cp) := HCr.out.below hb5'
        have hcan := HCAN.out w5 hb5'
        have hs5 : w.heap.size + 1 < w5.heap.size := blk_lt HC5.out.res
        have HL5 : Hid (wr.heap.size ≤ w5.heap.size) := hb5'.size
        clear hK' hb5 hb5' hS5
        refine wpAnyH_ready (rs := [6]) (by kernel_rfl) (by simp) ?_
        refine AllReadyH.cons rfl (fun K' hK' => ?_) AllReadyH.nil
        go_simp
        refine hcan.mono ?_
        clear hcan
        rintro e w7 ⟨⟨tv, PV, base, hbase, rfl, hO⟩, hL7⟩
        have hS7 : w7.cell? ⟨cc, 0, none⟩ = some (.slice (some ⟨rb, 0, none⟩) 1 rc) ∧ w7.cell? ⟨cc, 1, none⟩ = some (.slice va i vc) ∧ w7.cell? ⟨cc, 2, none⟩ = some (.slice (some ⟨cb, 0, none⟩) i i) ∧ w7.cell? ⟨rb, 0, none⟩ = some (.iface ut uy) := ⟨hL7.cell hHeld.1 (fun ⟨j, hj, e⟩ => (HNT.out j hj).1 e.symm), hL7.cell hHeld.2.1 (fun ⟨j, hj, e⟩ => (HNT.out j hj).1 e.symm), hL7.cell hHeld.2.2.1 (fun ⟨j, hj, e⟩ => (HNT.out j hj).1 e.symm), hL7.cell hHeld.2.2.2 (fun ⟨j, hj, e⟩ => (HNT.out j hj).2.1 e.symm)⟩
        have HC7 : Hid (CanW w w7 u ta i cp) := HC5.out.only hL7 (fun k ⟨j, hj, e⟩ => by have := (HNT.out j hj).2.2; omega)
        have HO : Hid (OTab w7 base tv S.length PV (cL S L) (cK S (sK K ls)) (cX S (fX X ls f))) := hO
        refine hK'.out _ _ hS7 (fun hHeld => ?_)
        clear hK' hO hL7 hS7
        obtain ⟨ta', tc', rfl, _⟩ := owns_form HO.out.own
        obtain ⟨r0, r1, r2, r3, r4, r5⟩ := cells5 HC7.out.res
        simp only [zeroV] at r0 r1 r2 r3
        have F := put5hi (put5lo HC7.out.res (.int .i64 ru.k) (.int .i64 ru.n) (.string ru.s) (.int .i64 ru.a)) (.slice ta' S.length tc')
        obtain ⟨wf, hwf⟩ : ∃ wf, wf = ((((w7.setCell ⟨w.heap.size + 1, 0, none⟩ (.int .i64 ru.k)).setCell ⟨w.heap.size + 1, 1, none⟩ (.int .i64 ru.n)).setCell ⟨w.heap.size + 1, 2, none⟩ (.string ru.s)).setCell ⟨w.heap.size + 1, 3, none⟩ (.int .i64 ru.a)).setCell ⟨w.heap.size + 1, 4, none⟩ (.slice ta' S.length tc') := ⟨_, rfl⟩
        have ho : Only (fun k => k = w.heap.size + 1) w7 wf := by rw [hwf]; exact set4_only.set (p := ⟨w.heap.size + 1, 4, none⟩) rfl _
        rw [← hwf] at F
        have hSf : wf.cell? ⟨cc, 0, none⟩ = some (.slice (some ⟨rb, 0, none⟩) 1 rc) ∧ wf.cell? ⟨cc, 1, none⟩ = some (.slice va i vc) ∧ wf.cell? ⟨cc, 2, none⟩ = some (.slice (some ⟨cb, 0, none⟩) i i) ∧ wf.cell? ⟨rb, 0, none⟩ = some (.iface ut uy) := ⟨ho.cell hHeld.1 HRl.out.2.2.1, ho.cell hHeld.2.1 HRl.out.2.2.1, ho.cell hHeld.2.2.1 HRl.out.2.2.1, ho.cell hHeld.2.2.2 HRl.out.2.1⟩
        obtain ⟨q0, q1, q2, q3, q4, _⟩ := cells5 F
        refine wpAnyH_ready (rs := [7]) (by kernel_rfl) (by simp) ?_
        refine AllReadyH.cons rfl (fun K' hK' => ?_) AllReadyH.nil
        go_simp
        rw [← hwf]
        refine hK'.out _ _ hSf (fun hHeld => ?_)
        clear hK' hHeld hwf hSf r0 r1 r2 r3 r4 r5
        refine wpAnyH_done (by kernel_rfl) ?_ _
        go_wp2
        refine bodyPost_ret (v := .agg #[.int .i64 ru.k, .int .i64 ru.n, .string ru.s, .int .i64 ru.a, .slice ta' S.length tc']) (by simp [results, Try.results9, go_sem, q0, q1, q2, q3, q4]) rfl ⟨Or.inl ⟨HOk.out, f, ls, HCS.out, Or.inl ⟨HOs.out, ?_⟩⟩, HC7.out.bel.trans (ho.toBelow (fun k hk => by omega) (by have := HC7.out.bel.size; omega))⟩
        rw [HSo.out, HRU.out]
        have := HL5.out
        exact ⟨_, PV, base, by omega, rfl, HO.out.only ho (fun k hk e => by omega)⟩
  · have HN : Hid (¬ OkG n u L K X) := by rw [HGd.out] at hno; exact hno
    clear HGs HGd hoff
    obtain ⟨w2, hw2⟩ : ∃ w2, w2 = w1.alloc (.cells #[.slice none 0 0, .slice none 0 0, .slice none 0 0] 60) := ⟨_, rfl⟩
    have hb2 : Below w1.heap.size w1 w2 := by rw [hw2]; exact (Below.refl _ _).alloc (Nat.le_refl _) _
    have H2 : Hid (CanW w w2 u ta n cp) := H1.out.below hb2
    obtain ⟨r0, r1, r2, r3, r4, r5⟩ := cells5 H2.out.res
    simp only [zeroV] at r0 r1 r2 r3
    obtain ⟨s0, s1, s2, s3, s4, s5⟩ := cells5 H1.out.res
    simp only [zeroV] at s0 s1 s2 s3
    have hlt : w.heap.size + 1 < w1.heap.size := blk_lt H1.out.res
    rw [hw2] at r0 r1 r2 r3 r4 r5
    go_wp2
    have F := put5hi (put5lo H1.out.res (.int .i64 0) (.int .i64 0) (.string ⟨#[]⟩) (.int .i64 0)) (.slice none 0 0)
    obtain ⟨q0, q1, q2, q3, q4, _⟩ := cells5 (blkB F ((Below.refl _ _).alloc (Nat.le_refl _) (.cells #[.slice none 0 0, .slice none 0 0, .slice none 0 0] 60)))
    refine bodyPost_ret (v := .agg #[.int .i64 0, .int .i64 0, .string ⟨#[]⟩, .int .i64 0, .slice none 0 0]) (by simp [results, Try.results9, go_sem, q0, q1, q2, q3, q4]) rfl ⟨Or.inr ⟨HN.out, rfl⟩, ?_⟩
    have hfin := (H1.out.bel.trans (set4_below (B := w.heap.size + 1) (i := 0) (j := 1) (k := 2) (l := 3) (a' := .int .i64 0) (b' := .int .i64 0) (c' := .string ⟨#[]⟩) (d' := .int .i64 0) |>.mono (show w.heap.size ≤ w.heap.size + 1 by omega))).setCell (p := ⟨w.heap.size + 1, 4, none⟩) (by show w.heap.size ≤ w.heap.size + 1; omega) (.slice none 0 0)
    exact hfin.alloc hfin.size _

end Go.Proofs.Ytgflalfiopnmnaa
