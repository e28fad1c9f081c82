import Derived.Test.YtgflalfiopnmnaaP20
import Derived.ArgAppend
namespace Go.Proofs.Ytgflalfiopnmnaa
open Go.RowKit Vl Aw

theorem keyCells_put {K : Nat → V} {c j : Nat} (hj : j < c) (k : V) :
    ((((keyCells (keys K c)).set (j * 4) (.int .i64 k.k)).set (j * 4 + 1) (.int .i64 k.n)).set (j * 4 + 2) (.string k.s)).set (j * 4 + 3) (.int .i64 k.a) = keyCells (keys (fun i => if i = j then k else K i) c) := by
  apply List.ext_getElem?
  intro m
  by_cases hm : m < c * 4
  · obtain ⟨q, i, hi, rfl⟩ : ∃ q i, i < 4 ∧ m = q * 4 + i := ⟨m / 4, m % 4, by omega, by omega⟩
    have hq : q < c := by omega
    rw [keyCells_at _ _ _ _ hq hi]
    simp only [List.getElem?_set, List.length_set, keyCells_len]
    by_cases e : q = j
    · subst e
      simp only [if_true]
      have hlt : ∀ d, d < 4 → q * 4 + d < c * 4 := fun d hd => by omega
      rcases (show i = 0 ∨ i = 1 ∨ i = 2 ∨ i = 3 by omega) with rfl | rfl | rfl | rfl <;> simp [hlt, show q * 4 < c * 4 by omega]
    · simp only [e, if_false]
      rw [if_neg (by omega), if_neg (by omega), if_neg (by omega), if_neg (by omega)]
      exact keyCells_at K c q i hq hi
  · rw [List.getElem?_eq_none (by simp only [List.length_set, keyCells_len]; omega), List.getElem?_eq_none (by rw [keyCells_len]; omega)]
theorem owns_putV {w : World} {base n g cap j : Nat} {K : Nat → V} (h : w.ownsRow base 24 4 (.slice (some ⟨g, 0, none⟩) n cap) n (keyCells (keys K n))) (hj : j < n) (k : V) :
    ((((w.setCell ⟨g, j * 4, none⟩ (.int .i64 k.k)).setCell ⟨g, j * 4 + 1, none⟩ (.int .i64 k.n)).setCell ⟨g, j * 4 + 2, none⟩ (.string k.s)).setCell ⟨g, j * 4 + 3, none⟩ (.int .i64 k.a)).ownsRow base 24 4 (.slice (some ⟨g, 0, none⟩) n cap) n (keyCells (keys (fun i => if i = j then k else K i) n)) := by
  rw [← keyCells_put hj]
  exact owns_set (owns_set (owns_set (owns_set h _ _) _ _) _ _) _ _
theorem keys_congr {K K' : Nat → V} {c : Nat} (h : ∀ j, j < c → K j = K' j) : keys K c = keys K' c := by
  unfold keys
  exact List.map_congr_left (fun j hj => h j (List.mem_range.1 hj))
theorem only4 {w : World} {g a0 a1 a2 a3 : Nat} {v0 v1 v2 v3 : Value} : Only (fun k => k = g) w ((((w.setCell ⟨g, a0, none⟩ v0).setCell ⟨g, a1, none⟩ v1).setCell ⟨g, a2, none⟩ v2).setCell ⟨g, a3, none⟩ v3) :=
  ((((Only.refl (fun k => k = g) w).set (p := ⟨g, a0, none⟩) rfl v0).set (p := ⟨g, a1, none⟩) rfl v1).set (p := ⟨g, a2, none⟩) rfl v2).set (p := ⟨g, a3, none⟩) rfl v3

/-- A row whose first and last i are exchanged. -/
def rv (K : Nat → V) (L i c : Nat) : V := if c < i ∨ L ≤ c + i then K (L - 1 - c) else K c

set_option maxHeartbeats 2000000 in
set_option maxRecDepth 100000 in
/-- 'slices.Reverse' at values. -/
theorem reverse_any (base g cap L : Nat) (K : Nat → V) (w : World) (hL : L ≤ 10000000) (HO : Hid (w.ownsRow base 24 4 (.slice (some ⟨g, 0, none⟩) L cap) L (keyCells (keys K L)))) :
    Calls Try.prog 85 #[.slice (some ⟨g, 0, none⟩) L cap] w fun e w' => e = .returned (.tuple #[]) ∧ w'.ownsRow base 24 4 (.slice (some ⟨g, 0, none⟩) L cap) L (keyCells (keys (fun c => K (L - 1 - c)) L)) ∧ Only (fun k => k = g) w w' := by
  have hwl : IntKind.i64.wrap ((L : Int) - 1) = (L : Int) - 1 := by rw [IntKind.wrap_i64]; omega
  go_enter Try.func85, Try.ntmps85
  go_wp2
  clear hwl
  go_loopw [2, 3] (fun s2 s3 wr => ∃ i : Nat, i ≤ L ∧ s2 = .int .i64 i ∧ s3 = .int .i64 ((L : Int) - 1 - (i : Int)) ∧ Hid (wr.ownsRow base 24 4 (.slice (some ⟨g, 0, none⟩) L cap) L (keyCells (keys (rv K L i) L))) ∧ Hid (Only (fun k => k = g) w wr)) (fun s2 _ _ => L + 1 - (intOf s2).toNat)
  case atStart => exact ⟨0, Nat.zero_le _, rfl, by simp, by rw [keys_congr (K' := K) (fun j hj => by unfold rv; rw [if_neg (by omega)])]; exact HO, Only.refl _ _⟩
  case round =>
    obtain ⟨i, hiL, rfl, rfl, HR, HN⟩ := hrel
    by_cases hlt : (i : Int) < (L : Int) - 1 - (i : Int)
    · obtain ⟨jn, hj⟩ : ∃ jn : Nat, (L : Int) - 1 - (i : Int) = (jn : Int) := ⟨L - 1 - i, by omega⟩
      have HJ : Hid (jn = L - 1 - i) := show _ = _ by omega
      rw [hj] at hlt ⊢
      have hij : i < jn := by omega
      have hjL : jn < L := by omega
      obtain ⟨e, hv⟩ := owns_keys HR.out
      obtain ⟨a0, a1, a2, a3⟩ := hv.cells (c := i) (by omega)
      obtain ⟨b0, b1, b2, b3⟩ := hv.cells (c := jn) hjL
      obtain ⟨xi, HXI⟩ : ∃ x, Hid (K i = x) := ⟨_, rfl⟩
      obtain ⟨xj, HXJ⟩ : ∃ x, Hid (K jn = x) := ⟨_, rfl⟩
      have ei : rv K L i i = xi := by unfold rv; rw [if_neg (by omega)]; exact HXI.out
      have ej : rv K L i jn = xj := by unfold rv; rw [if_neg (by have := HJ.out; omega)]; exact HXJ.out
      rw [ei] at a0 a1 a2 a3
      rw [ej] at b0 b1 b2 b3
      simp only [Nat.zero_add, slB, slA] at a0 a1 a2 a3 b0 b1 b2 b3
      have fz := owns_frozen HR.out
      have hbi : (0 : Int) ≤ (i : Int) ∧ (i : Int) < (L : Int) := by omega
      have hbj : (0 : Int) ≤ (jn : Int) ∧ (jn : Int) < (L : Int) := by omega
      have hwi : IntKind.i64.wrap ((i : Int) + 1) = (i : Int) + 1 := by rw [IntKind.wrap_i64]; omega
      have hwj : IntKind.i64.wrap ((jn : Int) - 1) = (jn : Int) - 1 := by rw [IntKind.wrap_i64]; omega
      have HSI : Hid (∀ w1 : World, w1.ownsRow base 24 4 (.slice (some ⟨g, 0, none⟩) L cap) L (keyCells (keys (fun c => if c = jn then xi else if c = i then xj else rv K L i c) L)) → w1.ownsRow base 24 4 (.slice (some ⟨g, 0, none⟩) L cap) L (keyCells (keys (rv K L (i + 1)) L))) := show ∀ w1, _ from fun w1 h => by
        rw [keys_congr (K' := fun c => if c = jn then xi else if c = i then xj else rv K L i c) (fun c hc => ?_)]
        · exact h
        · have hjn := HJ.out
          by_cases e1 : c = jn
          · rw [if_pos e1, ← HXI.out]
            unfold rv
            rw [if_pos (by omega)]
            congr 1
            omega
          · rw [if_neg e1]
            by_cases e2 : c = i
            · rw [if_pos e2, ← HXJ.out]
              unfold rv
              rw [if_pos (by omega)]
              congr 1
              omega
            · rw [if_neg e2]
              unfold rv
              by_cases e3 : c < i ∨ L ≤ c + i
              · rw [if_pos e3, if_pos (by omega)]
              · rw [if_neg e3, if_neg (by omega)]
      clear e hv ei ej
      go_wp2
      go_region
      obtain ⟨w4, hw4⟩ : ∃ w4, w4 = (((wr.setCell ⟨g, i * 4, none⟩ (.int .i64 xj.k)).setCell ⟨g, i * 4 + 1, none⟩ (.int .i64 xj.n)).setCell ⟨g, i * 4 + 2, none⟩ (.string xj.s)).setCell ⟨g, i * 4 + 3, none⟩ (.int .i64 xj.a) := ⟨_, rfl⟩
      have h4 : w4.ownsRow base 24 4 (.slice (some ⟨g, 0, none⟩) L cap) L (keyCells (keys (fun c => if c = i then xj else rv K L i c) L)) := by rw [hw4]; exact owns_putV HR.out (by omega) xj
      have o4 : Only (fun k => k = g) wr w4 := by rw [hw4]; exact only4
      rw [← hw4]
      obtain ⟨w5, hw5⟩ : ∃ w5, w5 = (((w4.setCell ⟨g, jn * 4, none⟩ (.int .i64 xi.k)).setCell ⟨g, jn * 4 + 1, none⟩ (.int .i64 xi.n)).setCell ⟨g, jn * 4 + 2, none⟩ (.string xi.s)).setCell ⟨g, jn * 4 + 3, none⟩ (.int .i64 xi.a) := ⟨_, rfl⟩
      have h5 : w5.ownsRow base 24 4 (.slice (some ⟨g, 0, none⟩) L cap) L (keyCells (keys (fun c => if c = jn then xi else if c = i then xj else rv K L i c) L)) := by rw [hw5]; exact owns_putV h4 hjL xi
      have o5 : Only (fun k => k = g) w4 w5 := by rw [hw5]; exact only4
      rw [← hw5]
      obtain ⟨w6, hw6⟩ : ∃ w6, w6 = w5.drew := ⟨_, rfl⟩
      have HR6 : Hid (w6.ownsRow base 24 4 (.slice (some ⟨g, 0, none⟩) L cap) L (keyCells (keys (rv K L (i + 1)) L))) := by rw [hw6]; exact HSI.out w5 h5
      have HN6 : Hid (Only (fun k => k = g) w w6) := by rw [hw6]; exact ((HN.out.trans o4).trans o5).trans (Only.below (Below.refl _ _).drew)
      rw [← hw6]
      clear hw4 hw5 hw6 h4 h5 o4 o5 a0 a1 a2 a3 b0 b1 b2 b3 fz HR HN
      go_wp2
      go_roundw
      case rel => exact ⟨i + 1, by omega, by go_num, by rw [← hj]; simp; omega, HR6, HN6⟩
      case measure => simp [intOf]; omega
    · have HE : Hid (keys (rv K L i) L = keys (fun c => K (L - 1 - c)) L) := keys_congr (fun c hc => by
        unfold rv
        by_cases e : c < i ∨ L ≤ c + i
        · rw [if_pos e]
        · rw [if_neg e]
          congr 1
          omega)
      go_wp2
      go_end0
      exact ⟨rfl, by rw [← HE.out]; exact HR.out, HN.out⟩

end Go.Proofs.Ytgflalfiopnmnaa

namespace Go.Proofs.Ytgflalfiopnmnaa
open Go.RowKit Vl Aw

/-- The steps that were taken, in memory. -/
structure Sts (w : World) (n : Nat) (T : Nat → Nat) (q : List Aw.E) (SB : Nat → Nat) : Prop where
  st : ∀ i, i < q.length → ∃ (k : V) (ah : Option Addr), w.heap[SB i]? = some (.cells #[ptr (T (lsE q i).a.a.toNat), ptr (T (n + (lsE q i).b.a.toNat)), .int .i64 k.k, .int .i64 k.n, .string k.s, .int .i64 k.a, .pointer ah] 90 (0, 0)) ∧ (((lsE q i).p = [] ∧ ah = none) ∨ ∃ i', i' < i ∧ ah = some ⟨SB i', 0, none⟩ ∧ (lsE q i).p = (lsE q i').p ++ [k])
theorem Sts.only {w w' : World} {n : Nat} {T : Nat → Nat} {q : List Aw.E} {SB : Nat → Nat} {P : Nat → Prop} (h : Sts w n T q SB) (ho : Only P w w') (hP : ∀ i, i < q.length → ¬ P (SB i)) : Sts w' n T q SB := ⟨fun i hi => by
  obtain ⟨k, ah, h1, h2⟩ := h.st i hi
  exact ⟨k, ah, (ho.block _ (blk_lt h1) (hP i hi)).trans h1, h2⟩⟩
theorem Sts.below {w w' : World} {n : Nat} {T : Nat → Nat} {q : List Aw.E} {SB : Nat → Nat} (h : Sts w n T q SB) (hb : Below w.heap.size w w') : Sts w' n T q SB := h.only (Only.below (P := fun _ => False) hb) (fun _ _ h => h)
theorem cellsSt {w : World} {B : Nat} {c0 c1 c2 c3 c4 c5 c6 : Value} {t : TypeId} (H : w.heap[B]? = some (.cells #[c0, c1, c2, c3, c4, c5, c6] t (0, 0))) :
    w.cell? ⟨B, 0, none⟩ = some c0 ∧ w.cell? ⟨B, 1, none⟩ = some c1 ∧ w.cell? ⟨B, 2, none⟩ = some c2 ∧ w.cell? ⟨B, 3, none⟩ = some c3 ∧ w.cell? ⟨B, 4, none⟩ = some c4 ∧ w.cell? ⟨B, 5, none⟩ = some c5 ∧ w.cell? ⟨B, 6, none⟩ = some c6 ∧ ∀ i, w.frozen? ⟨B, i, none⟩ = false := by
  refine ⟨?_, ?_, ?_, ?_, ?_, ?_, ?_, fun i => ?_⟩ <;> simp [World.cell?, World.frozen?, H]

def slN : Value → Nat
  | .slice _ n _ => n
  | _ => 0

set_option maxHeartbeats 1000000 in
theorem reverse_nil (w : World) : Calls Try.prog 85 #[.slice none 0 0] w fun e w' => e = .returned (.tuple #[]) ∧ w' = w := by
  go_enter Try.func85, Try.ntmps85
  go_wp2
  go_loopw [2, 3] (fun s2 s3 wr => s2 = .int .i64 0 ∧ s3 = .int .i64 (-1) ∧ wr = w) (fun _ _ _ => 0)
  case atStart => exact ⟨rfl, rfl, rfl⟩
  case round =>
    obtain ⟨rfl, rfl, e⟩ := hrel
    go_wp2
    go_end0
    exact ⟨rfl, rfl⟩

theorem rev_row {rest p : List V} (h : rest.reverse = p) : keys (fun c => lsF rest (rest.length - 1 - c)) rest.length = p := by
  rw [← h]
  refine List.ext_getElem (by simp [keys]) (fun i h1 h2 => ?_)
  have hi : i < rest.length := by simpa [keys] using h1
  have hj : rest.length - 1 - i < rest.length := by omega
  simp only [keys, List.getElem_map, List.getElem_range, lsF, List.getD_eq_getElem?_getD, List.getElem?_eq_getElem hj, Option.getD_some, List.getElem_reverse]

set_option maxHeartbeats 2000000 in
set_option maxRecDepth 100000 in
/-- '(*step).path'. -/
theorem path_any (n : Nat) (T : Nat → Nat) (q : List Aw.E) (SB : Nat → Nat) (i : Nat) (p : List V) (w : World) (hi : i < q.length) (HP : Hid ((lsE q i).p = p)) (hp : p.length ≤ 1000000) (HS : Hid (Sts w n T q SB)) :
    Calls Try.prog 46 #[ptr (SB i)] w fun e w' => (∃ v, e = .returned v ∧ w'.ownsRow w.heap.size 24 4 v p.length (keyCells p)) ∧ Below w.heap.size w w' := by
  have hn1 : ∀ (b : Nat) (w : World), (binOp .neq 88 (.pointer (some ⟨b, 0, none⟩)) (.pointer none)).run Try.prog w = .ok (.bool true) w := fun b w => by kernel_rfl
  have hn0 : ∀ (w : World), (binOp .neq 88 (.pointer none) (.pointer none)).run Try.prog w = .ok (.bool false) w := fun w => by kernel_rfl
  obtain ⟨iv, hiv, hz0, hz1, hz2⟩ := info_parts infoV
  go_enter Try.func46, Try.ntmps46
  go_wp2
  go_loopw [0, 3] (fun sv ov wr => ∃ (j : Nat) (rest : List V), j < q.length ∧ sv = ptr (SB j) ∧ Hid ((lsE q j).p ++ rest.reverse = p) ∧ Hid (wr.ownsRow w.heap.size 24 4 ov rest.length (keyCells rest)) ∧ Hid (Below w.heap.size w wr)) (fun _ ov _ => p.length - slN ov)
  case atStart => exact ⟨i, [], hi, rfl, by rw [List.reverse_nil, List.append_nil]; exact HP, World.ownsRow_nil _ _ _ _, Below.refl _ _⟩
  case round =>
    obtain ⟨j, rest, hj, rfl, HQ, HO, HB⟩ := hrel
    obtain ⟨k, ah, hblk, hcase⟩ := (HS.out.below HB.out).st j hj
    obtain ⟨d0, d1, d2, d3, d4, d5, d6, _⟩ := cellsSt hblk
    obtain ⟨oa, oc, rfl, _⟩ := owns_form HO.out
    obtain ⟨rl, HRL⟩ : ∃ rl, Hid (rest.length = rl) := ⟨_, rfl⟩
    have hlen : (lsE q j).p.length + rl = p.length := by
      rw [← HQ.out, List.length_append, List.length_reverse, HRL.out]
    rw [HRL.out] at HO ⊢
    have hsr := HB.out.size
    clear hblk
    rcases hcase with ⟨hnil, rfl⟩ | ⟨j', hj', rfl, hpe⟩
    · have HRV : Hid (rest.reverse = p) := by have h := HQ.out; rw [hnil, List.nil_append] at h; exact h
      clear hnil d0 d1 d2 d3 d4 d5
      rcases HO.out.2 with ⟨he, h0⟩ | ⟨g, cap, cur, he, _⟩
      · cases he
        have hrn := reverse_nil wr
        have HE : Hid (wr.ownsRow w.heap.size 24 4 (.slice none 0 0) p.length (keyCells p)) := by
          have hr : rest = [] := List.length_eq_zero_iff.1 (HRL.out.trans h0)
          have hp0 : p = [] := by rw [← HRV.out, hr]; rfl
          rw [hp0]
          exact World.ownsRow_nil _ _ _ _
        clear h0 hlen
        go_wp2_with fail
        refine hrn.mono ?_
        clear hrn
        rintro e w5 ⟨rfl, rfl⟩
        go_wp2
        go_ret
        exact ⟨⟨_, rfl, HE.out⟩, HB.out⟩
      · cases he
        have hO2 : wr.ownsRow w.heap.size 24 4 (.slice (some ⟨g, 0, none⟩) rl oc) rl (keyCells (keys (lsF rest) rl)) := by
          have e : keys (lsF rest) rl = rest := by rw [← HRL.out]; exact keys_lsF rest
          rw [e]; exact HO.out
        have hrn := reverse_any w.heap.size g oc rl (lsF rest) wr (by omega) hO2
        have HGB : Hid (w.heap.size ≤ g) := by
          obtain ⟨_, _, _, hk⟩ := owns_form hO2
          exact (hk g rfl).1
        clear hO2
        go_wp2_with fail
        refine hrn.mono ?_
        clear hrn
        rintro e w5 ⟨rfl, hown5, honly5⟩
        have HE : Hid (w5.ownsRow w.heap.size 24 4 (.slice (some ⟨g, 0, none⟩) rl oc) p.length (keyCells p)) := by
          have e1 := rev_row HRV.out
          rw [HRL.out] at e1
          rw [e1] at hown5
          have e2 : p.length = rl := by rw [← HRV.out, List.length_reverse]; exact HRL.out
          rw [e2]
          exact hown5
        have HB5 : Hid (Below w.heap.size w w5) := HB.out.trans (honly5.toBelow (fun k e => by subst e; exact HGB.out) HB.out.size)
        clear hown5 honly5
        go_wp2
        go_ret
        exact ⟨⟨_, rfl, HE.out⟩, HB5.out⟩
    · have HQ2 : Hid ((lsE q j').p ++ (rest ++ [k]).reverse = p) := by
        have h := HQ.out
        rw [hpe, List.append_assoc] at h
        rw [List.reverse_append]
        exact h
      have hpl : (lsE q j).p.length = (lsE q j').p.length + 1 := by rw [hpe, List.length_append]; rfl
      clear hpe
      go_wp2_with (at_builtin; refine wpList_append_lies _ (by rfl) (.tmp 13) (.tmp 18) 36 (by rfl) w.heap.size 24 iv (.agg #[.int .i64 0, .int .i64 0, .string ⟨#[]⟩, .int .i64 0]) 4 40 Try.underlying36 hiv hz0 hz1 hz2 (by rfl) (by omega) (.slice oa rl oc) rl (keyCells rest) (by rfl) (HO.out.alloc _) ⟨wr.heap.size, 0, none⟩ 1 1 [.int .i64 k.k, .int .i64 k.n, .string k.s, .int .i64 k.a] (by rfl) (by rfl) ?c1 ?c2 (by omega) ?c3 ?c4 ?c5 (wr.heap.size + 1) ?c6 ?_)
      case c1 => exact World.news_of_block (heap_alloc_new wr _)
      case c2 => intro u hu; simp at hu; rcases hu with rfl | rfl | rfl | rfl <;> rfl
      case c3 => unfold maxLen; omega
      case c4 => omega
      case c5 => simp; omega
      case c6 => simp
      intro g cap w6 hown6 hgrow6 hat6 hlt6
      have hb6 : Below w.heap.size (wr.alloc (.cells #[.int .i64 k.k, .int .i64 k.n, .string k.s, .int .i64 k.a] 24)) w6 := below_grown (HO.out.alloc _) hgrow6 (by simp; omega)
      have HB6 : Hid (Below w.heap.size w w6) := (HB.out.alloc HB.out.size _).trans hb6
      have HO6 : Hid (w6.ownsRow w.heap.size 24 4 (.slice (some ⟨g, 0, none⟩) (rl + 1) cap) (rest ++ [k]).length (keyCells (rest ++ [k]))) := by
        rw [keyCells_snoc, List.length_append, HRL.out]
        exact hown6
      obtain ⟨k2, ah2, hblk2, _⟩ := (HS.out.below HB6.out).st j hj
      clear hown6 hgrow6 hat6 hlt6 hb6
      have hd6 : w6.cell? ⟨SB j, 6, none⟩ = some (.pointer (some ⟨SB j', 0, none⟩)) := by
        have h6 : w.cell? ⟨SB j, 6, none⟩ = wr.cell? ⟨SB j, 6, none⟩ := by
          obtain ⟨_, _, hb0, _⟩ := HS.out.st j hj
          exact (HB.out.cell (p := ⟨SB j, 6, none⟩) (blk_lt hb0)).symm
        have hlt : SB j < w.heap.size := by obtain ⟨_, _, hb0, _⟩ := HS.out.st j hj; exact blk_lt hb0
        rw [HB6.out.cell (p := ⟨SB j, 6, none⟩) hlt, h6]
        exact d6
      clear d0 d1 d2 d3 d4 d5 d6 hblk2
      go_wp2
      go_roundw
      case rel => exact ⟨j', rest ++ [k], by omega, rfl, HQ2, HO6, HB6⟩
      case measure => simp [slN]; omega

end Go.Proofs.Ytgflalfiopnmnaa

namespace Go.Proofs.Ytgflalfiopnmnaa
open Go.RowKit Vl Aw

theorem Try.infoStep : (Try.prog.info? 88).map (fun i => (i.zero, i.size, i.bytes)) = some (some (.pointer none), 1, 8) := by kernel_rfl

/-- Steps that wait, in memory. -/
def QuL (w : World) (base : Nat) (wv : Value) (l : List Nat) : Prop :=
  (wv = .slice none 0 0 ∧ l = []) ∨ ∃ g off cap cur, wv = .slice (some ⟨g, off, none⟩) l.length cap ∧ base ≤ g ∧ w.heap[g]? = some (.cells cur 88 (0, 0)) ∧ l.length ≤ cap ∧ off + cap ≤ cur.size ∧ ∀ i b, l[i]? = some b → cur[off + i]? = some (ptr b)

theorem owns_qu {w : World} {base b0 n : Nat} {v : Value} {l : List Nat} (hn : l.length = n) (h : w.ownsRow b0 88 1 v n (l.map ptr)) (hb : base ≤ b0) : QuL w base v l := by
  subst hn
  rcases h.2 with ⟨rfl, h0⟩ | ⟨g, cap, cur, rfl, hg, hh, hle, _, hs, ht⟩
  · exact Or.inl ⟨rfl, List.length_eq_zero_iff.1 h0⟩
  · refine Or.inr ⟨g, 0, cap, cur, rfl, Nat.le_trans hb hg, hh, hle, by omega, fun i b hi => ?_⟩
    have hil := (List.getElem?_eq_some_iff.1 hi).1
    have h1 : (l.map ptr)[i]? = some (ptr b) := by rw [List.getElem?_map, hi]; rfl
    rw [← ht, List.getElem?_take, if_pos (by omega)] at h1
    rw [Nat.zero_add]
    simpa using h1

theorem QuL.same {w w' : World} {base : Nat} {wv : Value} {l : List Nat} (h : QuL w base wv l) (hs : ∀ g, wv.ownBlock = some g → w'.heap[g]? = w.heap[g]?) : QuL w' base wv l := by
  rcases h with h | ⟨g, off, cap, cur, e, h1, h2, h3⟩
  · exact Or.inl h
  · refine Or.inr ⟨g, off, cap, cur, e, h1, ?_, h3⟩
    rw [hs g (by rw [e]; rfl)]
    exact h2
theorem QuL.own {w : World} {base : Nat} {wv : Value} {l : List Nat} (h : QuL w base wv l) {g : Nat} (hg : wv.ownBlock = some g) : ∃ cur, w.heap[g]? = some (.cells cur 88 (0, 0)) := by
  rcases h with ⟨e, _⟩ | ⟨g', off, cap, cur, e, _, h2, _⟩
  · rw [e] at hg; cases hg
  · rw [e] at hg
    have : g' = g := Option.some.inj hg
    subst this
    exact ⟨cur, h2⟩

theorem QuL.lo {w : World} {base : Nat} {wv : Value} {l : List Nat} (h : QuL w base wv l) {g : Nat} (hg : wv.ownBlock = some g) : base ≤ g := by
  rcases h with ⟨e, _⟩ | ⟨g', off, cap, cur, e, h1, _⟩
  · rw [e] at hg; cases hg
  · rw [e] at hg
    have : g' = g := Option.some.inj hg
    subst this
    exact h1

/-- The first is taken off. -/
theorem QuL.pop {w : World} {base : Nat} {wv : Value} {b : Nat} {l : List Nat} (h : QuL w base wv (b :: l)) : ∃ g off cap, wv = .slice (some ⟨g, off, none⟩) (l.length + 1) (cap + 1) ∧ w.cell? ⟨g, off, none⟩ = some (ptr b) ∧ QuL w base (.slice (some ⟨g, off + 1, none⟩) l.length cap) l := by
  rcases h with ⟨_, e⟩ | ⟨g, off, cap, cur, e, h1, h2, h3, h4, h5⟩
  · cases e
  · simp only [List.length_cons] at e h3
    obtain ⟨c, rfl⟩ : ∃ c, cap = c + 1 := ⟨cap - 1, by omega⟩
    refine ⟨g, off, c, e, ?_, Or.inr ⟨g, off + 1, c, cur, rfl, h1, h2, by omega, by omega, fun i x hx => ?_⟩⟩
    · have := h5 0 b rfl
      simp [World.cell?, h2]
      simpa using this
    · have := h5 (i + 1) x (by simpa using hx)
      rw [show off + 1 + i = off + (i + 1) by omega]
      exact this

theorem put5 {w : World} {B : Nat} {a b c d e : Value} {t : TypeId} (H : w.heap[B]? = some (.cells #[a, b, c, d, e] t (0, 0))) (d' : Value) : (w.setCell ⟨B, 3, none⟩ d').heap[B]? = some (.cells #[a, b, c, d', e] t (0, 0)) := by
  simp [World.setCell, Array.getElem?_modify, H]

set_option maxHeartbeats 2000000 in
set_option maxRecDepth 100000 in
/-- '(*queue).push'. -/
theorem push_any (sB base b : Nat) (c0 c1 c2 c4 wv : Value) (l : List Nat) (w : World) (hl : l.length ≤ 100000) (hbs : base ≤ w.heap.size) (hsb : sB < base) (HB : Hid (w.heap[sB]? = some (.cells #[c0, c1, c2, wv, c4] 84 (0, 0)))) (HQ : Hid (QuL w base wv l)) :
    Calls Try.prog 80 #[.pointer (some ⟨sB, 3, none⟩), ptr b] w fun e w' => e = .returned (.tuple #[]) ∧ ∃ wv', w'.heap[sB]? = some (.cells #[c0, c1, c2, wv', c4] 84 (0, 0)) ∧ QuL w' base wv' (l ++ [b]) ∧ Only (fun k => k = sB ∨ wv.ownBlock = some k) w w' := by
  obtain ⟨s0, s1, s2, s3, s4, sz⟩ := cells5 HB.out
  obtain ⟨iv, hiv, hz0, hz1, hz2⟩ := info_parts Try.infoStep
  have hsl : sB < w.heap.size := by omega
  rcases HQ.out with ⟨rfl, rfl⟩ | ⟨g, off, cap, cur, rfl, hg, hh, hle, hsz, hat⟩
  · go_enter Try.func80, Try.ntmps80
    go_wp2_with (at_builtin; refine wpList_append_lies _ (by rfl) (.tmp 8) (.tmp 10) 80 (by rfl) base 88 iv (.pointer none) 1 8 Try.underlying80 hiv hz0 hz1 hz2 (by rfl) (by omega) (.slice none 0 0) 0 [] (by rfl) (World.ownsRow_nil _ _ _ _) ⟨w.heap.size, 0, none⟩ 1 1 [ptr b] (by rfl) (by rfl) ?c1 ?c2 (by omega) ?c3 ?c4 ?c5 (w.heap.size + 1) ?c6 ?_)
    case c1 => exact World.news_of_block (heap_alloc_new w _)
    case c2 => intro u hu; simp at hu; subst hu; rfl
    case c3 => unfold maxLen; omega
    case c4 => omega
    case c5 => simp; omega
    case c6 => simp
    intro g cap w6 hown6 hgrow6 hat6 hlt6
    have hB6 : w6.heap[sB]? = some (.cells #[c0, c1, c2, .slice none 0 0, c4] 84 (0, 0)) := ((hgrow6.block sB (by simp; omega) (fun e => by cases e)).trans (Below.heap_alloc _ _ _ hsl)).trans HB.out
    have ho6 : Only (fun k => k = sB ∨ (Value.slice none 0 0).ownBlock = some k) w w6 := ⟨hgrow6.os, hgrow6.tape, hgrow6.output, by have := hgrow6.size; simp at this; omega, fun k hk _ => (hgrow6.block k (by simp; omega) (fun e => by cases e)).trans (Below.heap_alloc _ _ _ hk)⟩
    have HB6 : Hid _ := hB6
    have HO6 : Hid _ := ho6
    have HQ6 : Hid (QuL w6 base (.slice (some ⟨g, 0, none⟩) 1 cap) [b]) := owns_qu rfl hown6 (Nat.le_refl _)
    have hgb : base ≤ g := by obtain ⟨_, _, _, hk⟩ := owns_form hown6; exact (hk g rfl).1
    obtain ⟨t0, t1, t2, t3, t4, tz⟩ := cells5 hB6
    clear hown6 hgrow6 hat6 hlt6 hB6 ho6
    go_wp2
    go_end0
    refine ⟨rfl, .slice (some ⟨g, 0, none⟩) 1 cap, put5 HB6.out _, HQ6.out.same (fun g' hg' => ?_), HO6.out.set (p := ⟨sB, 3, none⟩) (Or.inl rfl) _⟩
    have e : g = g' := Option.some.inj hg'
    exact Below.heap_setCell _ _ _ _ (by show g' ≠ sB; omega)
  · have hne : sB ≠ g := by omega
    have hgl := blk_lt hh
    have hcl : ∀ i x, (l.map ptr)[i]? = some x → w.cell? ⟨g, off + i, none⟩ = some x := fun i x hx => by
      rw [List.getElem?_map] at hx
      cases hb : l[i]? with
      | none => rw [hb] at hx; cases hx
      | some y =>
        rw [hb] at hx
        cases hx
        have := hat i y hb
        simp [World.cell?, hh]
        simpa using this
    have HCL : Hid _ := hcl
    have HHH : Hid (w.heap[g]? = some (.cells cur 88 (0, 0))) := hh
    have HAT : Hid (∀ i b, l[i]? = some b → cur[off + i]? = some (ptr b)) := hat
    have HSZ : Hid (off + cap ≤ cur.size ∧ l.length ≤ cap) := ⟨hsz, hle⟩
    obtain ⟨ll, HLL⟩ : ∃ ll, Hid (l.length = ll) := ⟨_, rfl⟩
    rw [HLL.out] at s3 hl ⊢
    have hwl := hbs
    clear hh hat hsz hle hcl
    go_enter Try.func80, Try.ntmps80
    go_wp2_with (at_builtin; refine wpList_append_arg _ (by rfl) (.tmp 8) (.tmp 10) 80 (by rfl) 88 iv (.pointer none) 1 8 Try.underlying80 hiv hz0 hz1 hz2 (by rfl) (by omega) g off ll cap (l.map ptr) (by rfl) ?d1 ?d2 ⟨w.heap.size, 0, none⟩ 1 1 [ptr b] (by rfl) (by rfl) ?d3 ?d4 ?d5 ?d6 ?d7 ?d8 ?d9)
    case d1 => rw [List.length_map, HLL.out, Nat.mul_one]
    case d2 => intro i x hx; exact (((Below.refl w.heap.size w).alloc (Nat.le_refl _) _).cell (p := ⟨g, off + i, none⟩) hgl).trans (HCL.out i x hx)
    case d3 => exact World.news_of_block (heap_alloc_new w _)
    case d4 => intro u hu; simp at hu; subst hu; rfl
    case d5 =>
      intro hroom i hi
      have hi0 : i = 0 := by simp at hi; exact hi
      subst hi0
      have hh1 : (w.alloc (.cells #[ptr b] 88)).heap[g]? = some (.cells cur 88 (0, 0)) := (Below.heap_alloc _ _ _ hgl).trans HHH.out
      have hlt : off + ll * 1 + 0 < cur.size := by have := HSZ.out.1; omega
      refine ⟨?_, by simp [World.frozen?, hh1]⟩
      simp only [World.cell?, hh1]
      simp
      omega
    case d6 => unfold maxLen; omega
    case d7 => omega
    case d8 =>
      intro hroom
      have e : (w.alloc (.cells #[ptr b] 88)).setCells g (off + ll) [ptr b] = (w.alloc (.cells #[ptr b] 88)).setCell ⟨g, off + ll, none⟩ (ptr b) := by simp [World.setCells]
      try simp only [Nat.mul_one]
      rw [e]
      clear e
      obtain ⟨w6, hw6⟩ : ∃ w6, w6 = (w.alloc (.cells #[ptr b] 88)).setCell ⟨g, off + ll, none⟩ (ptr b) := ⟨_, rfl⟩
      have hB6 : w6.heap[sB]? = some (.cells #[c0, c1, c2, .slice (some ⟨g, off, none⟩) ll cap, c4] 84 (0, 0)) := by
        rw [hw6, Below.heap_setCell _ _ _ _ hne, Below.heap_alloc _ _ _ hsl]
        have h := HB.out
        rw [HLL.out] at h
        exact h
      have hg6 : w6.heap[g]? = some (.cells (cur.setIfInBounds (off + ll) (ptr b)) 88 (0, 0)) := by
        rw [hw6]
        have hh1 : (w.alloc (.cells #[ptr b] 88)).heap[g]? = some (.cells cur 88 (0, 0)) := (Below.heap_alloc _ _ _ hgl).trans HHH.out
        simp [World.setCell, Array.getElem?_modify, hh1]
      have HQ6 : Hid (QuL w6 base (.slice (some ⟨g, off, none⟩) (ll + 1) cap) (l ++ [b])) := Or.inr ⟨g, off, cap, _, by rw [List.length_append, HLL.out]; rfl, hg, hg6, by rw [List.length_append, HLL.out]; exact hroom, by rw [Array.size_setIfInBounds]; exact HSZ.out.1, fun i x hx => by
        by_cases e : i = ll
        · subst e
          rw [List.getElem?_append_right (by rw [HLL.out]; exact Nat.le_refl _), HLL.out] at hx
          simp at hx
          subst hx
          rw [Array.getElem?_setIfInBounds_self_of_lt (by have := HSZ.out.1; omega)]
        · have hil : i < l.length := by
            have := (List.getElem?_eq_some_iff.1 hx).1
            rw [List.length_append, HLL.out] at this
            rw [HLL.out]
            simp at this
            omega
          rw [List.getElem?_append_left hil] at hx
          rw [Array.getElem?_setIfInBounds_ne (by omega)]
          exact HAT.out i x hx⟩
      have HO6 : Hid (Only (fun k => k = sB ∨ (Value.slice (some ⟨g, off, none⟩) ll cap).ownBlock = some k) w w6) := by
        rw [hw6]
        exact ((Only.refl _ w).alloc _).set (p := ⟨g, off + ll, none⟩) (Or.inr rfl) _
      have HB6 : Hid _ := hB6
      obtain ⟨t0, t1, t2, t3, t4, tz⟩ := cells5 hB6
      rw [← hw6]
      clear hw6 hB6 hg6 s0 s1 s2 s3 s4 sz
      go_wp2
      go_end0
      refine ⟨rfl, .slice (some ⟨g, off, none⟩) (ll + 1) cap, put5 HB6.out _, HQ6.out.same (fun g' hg' => ?_), HO6.out.set (p := ⟨sB, 3, none⟩) (Or.inl rfl) _⟩
      have e : g = g' := Option.some.inj hg'
      exact Below.heap_setCell _ _ _ _ (by show g' ≠ sB; omega)
    case d9 =>
      intro hfull v' w6 hown6 hgrow6
      obtain ⟨va, vc, hv', hvk⟩ := owns_form hown6
      have hB6 : w6.heap[sB]? = some (.cells #[c0, c1, c2, .slice (some ⟨g, off, none⟩) ll cap, c4] 84 (0, 0)) := by
        have h := HB.out
        rw [HLL.out] at h
        exact ((hgrow6.block sB (by simp; omega) (fun e => by cases e)).trans (Below.heap_alloc _ _ _ hsl)).trans h
      have HO6 : Hid (Only (fun k => k = sB ∨ (Value.slice (some ⟨g, off, none⟩) ll cap).ownBlock = some k) w w6) := ⟨hgrow6.os, hgrow6.tape, hgrow6.output, by have := hgrow6.size; simp at this; omega, fun k hk _ => (hgrow6.block k (by simp; omega) (fun e => by cases e)).trans (Below.heap_alloc _ _ _ hk)⟩
      have HQ6 : Hid (QuL w6 base v' (l ++ [b])) := owns_qu (by rw [List.length_append, HLL.out]) (by rw [List.map_append]; exact hown6) (by first | omega | (simp; omega))
      have HVK : Hid (∀ k, v'.ownBlock = some k → w.heap.size ≤ k) := show ∀ k, _ from fun k hk => by have := (hvk k hk).1; first | omega | (simp at this; omega)
      have HB6 : Hid _ := hB6
      obtain ⟨t0, t1, t2, t3, t4, tz⟩ := cells5 hB6
      subst hv'
      clear hown6 hgrow6 hvk hB6 s0 s1 s2 s3 s4 sz
      go_wp2
      go_end0
      refine ⟨rfl, .slice va (ll + 1) vc, put5 HB6.out _, HQ6.out.same (fun g' hg' => ?_), HO6.out.set (p := ⟨sB, 3, none⟩) (Or.inl rfl) _⟩
      have := HVK.out g' hg'
      exact Below.heap_setCell _ _ _ _ (by show g' ≠ sB; omega)

end Go.Proofs.Ytgflalfiopnmnaa

namespace Go.Proofs.Ytgflalfiopnmnaa
open Go.RowKit Vl Aw

abbrev cAgg (p : Nat × Nat) : Value := .agg #[ptr p.1, ptr p.2]
def cEq (p q : Nat × Nat) : Bool := p.1 == q.1 && p.2 == q.2
def cOk (w : World) (p : Nat × Nat) : Prop := IsB w p.1 ∧ IsB w p.2
theorem part_cp (p : Nat × Nat) (w : World) : (part 63 #[ptr p.1, ptr p.2] 0).run Try.prog w = .ok (ptr p.1) w ∧ (part 63 #[ptr p.1, ptr p.2] 1).run Try.prog w = .ok (ptr p.2) w := by
  constructor <;> kernel_rfl
theorem eq_cp (d : Nat) (p q : Nat × Nat) (w : World) (hp : cOk w p) (hq : cOk w q) : (Op.equalIn (d + 3) 87 (cAgg p) (cAgg q)).run Try.prog w = .ok (cEq p q) w := by
  rw [run_equalIn_struct w (d + 2) 87 _ _ (by kernel_rfl) (by kernel_rfl)]
  have hf : (Try.prog.fieldsOf 87).toList.map (fun f => (f.name == "_", f.type, f.offset)) = [(false, 63, 0), (false, 63, 1)] := by kernel_rfl
  generalize (Try.prog.fieldsOf 87).toList = fs at hf
  obtain ⟨f, g, rfl⟩ : ∃ f g, fs = [f, g] := by
    cases fs with
    | nil => simp at hf
    | cons f fs =>
      cases fs with
      | nil => simp at hf
      | cons g fs =>
        cases fs with
        | nil => exact ⟨f, g, rfl⟩
        | cons => simp at hf
  simp only [List.map_cons, List.map_nil, List.cons.injEq, Prod.mk.injEq, and_true] at hf
  obtain ⟨⟨f1, f2, f3⟩, ⟨g1, g2, g3⟩⟩ := hf
  have f1' : f.name ≠ "_" := by simpa using f1
  have g1' : g.name ≠ "_" := by simpa using g1
  have e4 : (Op.eqFields (d + 2) #[ptr p.1, ptr p.2] #[ptr q.1, ptr q.2] [g]).run Try.prog w = .ok (p.2 == q.2) w := by
    unfold Op.eqFields
    rw [if_pos g1', g2, g3]
    simp only [Sem.run_bind, (part_cp p w).2, (part_cp q w).2, Result.andThen_ok, eq_ptr p.2 q.2 w hp.2 hq.2 (d + 1)]
    cases p.2 == q.2
    · simp only [Bool.not_false, if_true, Sem.run_pure]
    · simp only [Bool.not_true, Bool.false_eq_true, if_false, Op.eqFields, Sem.run_pure]
  unfold Op.eqFields
  rw [if_pos f1', f2, f3]
  simp only [Sem.run_bind, (part_cp p w).1, (part_cp q w).1, Result.andThen_ok, eq_ptr p.1 q.1 w hp.1 hq.1 (d + 1)]
  unfold cEq
  cases p.1 == q.1
  · simp only [Bool.not_false, if_true, Bool.false_and, Sem.run_pure]
  · simp only [Bool.not_true, Bool.false_eq_true, if_false, Bool.true_and]
    exact e4
theorem cp_keyed : Keyed 79 87 139 cAgg cOk cEq (.agg #[]) where
  und := Try.underlying79
  eq := fun u v w hu hv => eq_cp 9997 u v w hu hv
  chk := fun em v w => by kernel_rfl
  now := ⟨_, Try.underlying87, fun u v => rfl⟩
  zero := fun w => by kernel_rfl

/-- The couple of tables of an entry. -/
def cpl (n : Nat) (T : Nat → Nat) (e : Aw.E) : Nat × Nat := (T e.a.a.toNat, T (n + e.b.a.toNat))
def seenL (n : Nat) (T : Nat → Nat) (q : List Aw.E) : List ((Nat × Nat) × Value) := q.map fun e => (cpl n T e, .agg #[])
/-- Those that wait: of the steps behind the first j. -/
def waitL (SB : Nat → Nat) (j c : Nat) : List Nat := (List.range (c - j)).map fun i => SB (j + i)

/-- The search in memory: j of its steps are gone through. -/
structure Sea (w : World) (n m : Nat) (T : Nat → Nat) (sB sm cb base : Nat) (rv tv : Value) (j : Nat) (q : List Aw.E) (SB : Nat → Nat) : Prop where
  blk : ∃ wv, w.heap[sB]? = some (.cells #[rv, tv, .slice (some ⟨cb, 0, none⟩) (n + m) (n + m), wv, .map (some sm)] 84 (0, 0)) ∧ QuL w base wv (waitL SB j q.length)
  sts : Sts w n T q SB
  seen : MapG cAgg w sm (seenL n T q)
  lo : sB < base ∧ sm < base ∧ base ≤ w.heap.size
  le : j ≤ q.length

/-- Nothing is changed but the search itself and rows of steps. -/
def Fr (sB sm base : Nat) (w w' : World) : Prop := Only (fun k => k = sB ∨ k = sm ∨ (base ≤ k ∧ ∃ cur, w.heap[k]? = some (.cells cur 88 (0, 0)))) w w'
theorem Fr.trans {sB sm base : Nat} {a b c : World} (h : Fr sB sm base a b) (k : Fr sB sm base b c) : Fr sB sm base a c :=
  ⟨k.os.trans h.os, k.tape.trans h.tape, k.output.trans h.output, Nat.le_trans h.size k.size, fun i hi hp => (k.block i (Nat.lt_of_lt_of_le hi h.size) (fun hq => hp (by
    rcases hq with e | e | ⟨hb, cur, hc⟩
    · exact Or.inl e
    · exact Or.inr (Or.inl e)
    · by_cases e1 : i = sB
      · exact Or.inl e1
      · by_cases e2 : i = sm
        · exact Or.inr (Or.inl e2)
        · refine Or.inr (Or.inr ⟨hb, cur, ?_⟩)
          by_cases e3 : ∃ cur, a.heap[i]? = some (.cells cur 88 (0, 0))
          · exact absurd (Or.inr (Or.inr ⟨hb, e3⟩)) hp
          · rw [← h.block i hi (by rintro (e | e | e); exact e1 e; exact e2 e; exact e3 e.2)]
            exact hc))).trans (h.block i hi hp)⟩
theorem Fr.below {sB sm base : Nat} {a b : World} (h : Below a.heap.size a b) : Fr sB sm base a b := Only.below h
theorem Fr.refl (sB sm base : Nat) (w : World) : Fr sB sm base w w := Only.refl _ _
theorem Fr.cells {sB sm base : Nat} {a b : World} (h : Fr sB sm base a b) {k : Nat} {cs : Array Value} {t : TypeId} {z : Nat × Nat} (hk : a.heap[k]? = some (.cells cs t z)) (h1 : t ≠ 88) (h2 : k ≠ sB) (h3 : k ≠ sm) : b.heap[k]? = some (.cells cs t z) := by
  rw [h.block k (blk_lt hk) (fun hp => ?_)]
  · exact hk
  · rcases hp with e | e | ⟨_, cur, hc⟩
    · exact h2 e
    · exact h3 e
    · rw [hk] at hc
      cases hc
      exact h1 rfl
theorem Fr.tbs {sB sm base n : Nat} {a b : World} {T M : Nat → Nat} {at_ : Nat → Int} {L : Nat → Nat} {K X : Nat → Nat → V} (h : Fr sB sm base a b) (ht : Tbs a n T M at_ L K X) (hs : ∃ cs, a.heap[sB]? = some (.cells cs 84 (0, 0))) (hm : ∀ j, j < n → M j ≠ sm) (hmm : ∃ es clk, a.heap[sm]? = some (.map es clk)) : Tbs b n T M at_ L K X := by
  obtain ⟨cs, hs⟩ := hs
  obtain ⟨es, clk, hmm⟩ := hmm
  have hT : ∀ j, j < n → b.heap[T j]? = a.heap[T j]? := fun j hj => by
    obtain ⟨ord, a1, _⟩ := ht.tab j hj
    refine h.block _ (blk_lt a1) (fun hp => ?_)
    unfold TabB at a1
    rcases hp with e | e | ⟨_, cur, hc⟩
    · rw [e, hs] at a1; cases a1
    · rw [e, hmm] at a1; cases a1
    · rw [hc] at a1; cases a1
  have hMp : ∀ j, j < n → b.heap[M j]? = a.heap[M j]? := fun j hj => by
    obtain ⟨l, a1, _⟩ := ht.map j hj
    refine h.block _ a1.lt (fun hp => ?_)
    obtain ⟨es', clk', hb, _⟩ := a1
    rcases hp with e | e | ⟨_, cur, hc⟩
    · rw [e, hs] at hb; cases hb
    · exact hm j hj e
    · rw [hc] at hb; cases hb
  refine ⟨fun j hj => ?_, fun j hj => ?_, ht.inj, ht.noneB hMp⟩
  · obtain ⟨ord, a1, a2⟩ := ht.tab j hj
    refine ⟨ord, (hT j hj).trans a1, Only.ownsB h a2 (fun g hg hp => ?_)⟩
    obtain ⟨_, cur, hc⟩ := owns_type a2 hg
    rcases hp with e | e | ⟨_, cur', hc'⟩
    · rw [e, hs] at hc; cases hc
    · rw [e, hmm] at hc; cases hc
    · rw [hc'] at hc; cases hc
  · obtain ⟨l, a1, a2⟩ := ht.map j hj
    exact ⟨l, a1.same (hMp j hj), a2⟩

theorem Sea.below {w w' : World} {n m : Nat} {T : Nat → Nat} {sB sm cb base : Nat} {rv tv : Value} {j : Nat} {q : List Aw.E} {SB : Nat → Nat} (h : Sea w n m T sB sm cb base rv tv j q SB) (hb : Below w.heap.size w w') : Sea w' n m T sB sm cb base rv tv j q SB := by
  obtain ⟨wv, h1, h2⟩ := h.blk
  refine ⟨⟨wv, blkB h1 hb, h2.same (fun g hg => ?_)⟩, h.sts.below hb, h.seen.same (hb.block _ h.seen.lt), ⟨h.lo.1, h.lo.2.1, Nat.le_trans h.lo.2.2 hb.size⟩, h.le⟩
  obtain ⟨cur, hc⟩ := h2.own hg
  exact hb.block _ (blk_lt hc)

end Go.Proofs.Ytgflalfiopnmnaa
