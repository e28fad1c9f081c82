import Derived.Test.YtgflalfiopnmnaaGreatDoorM6
import Derived.Test.YtgflalfiopnmnaaGreatDoorM3
import Derived.ChangeKeysEq
import Derived.Test.YtgflalfiopnmnaaGreatDoorM2
import Derived.Laws.Tables
import Derived.Deep.MidRow
import Derived.Laws.Rows
namespace Go.Proofs.YtgflalfiopnmnaaGreatDoor
open Go.RowKit Vl Go.Sort Go.Shelf

abbrev KV := { v : V // isK v = true }
instance : Inhabited KV := ⟨⟨⟨2, 0, ⟨#[]⟩, 0⟩, by decide +kernel⟩⟩
def encK (x : KV) : List Value := [.int .i64 x.1.k, .int .i64 x.1.n, .string x.1.s, .int .i64 x.1.a]

theorem ltK (x y : KV) : ltOf (fun x y : KV => ko x.1 y.1) x y = less x.1 y.1 := by
  unfold ltOf ko
  simp only [x.2, y.2, Bool.and_self, if_true]
  cases h : less x.1 y.1
  · cases less y.1 x.1 <;> simp
  · simp
theorem less_irrefl (a : V) : less a a = false := by
  cases h : less a a
  · rfl
  · have := less_asymm h; rw [h] at this; cases this
theorem swoK : SWO (ltOf fun x y : KV => ko x.1 y.1) where
  irrefl x := by rw [ltK]; exact less_irrefl _
  trans x y z h1 h2 := by
    rw [ltK] at *
    cases h : less x.1 z.1
    · have := le_trans (less_asymm h2) h
      rw [this] at h1
      cases h1
    · rfl
  ntrans x y z h1 h2 := by
    rw [ltK] at *
    exact le_trans h2 h1

theorem perm_map {α β : Type} {f : α → β} {l k : List β} (h : l.Perm k) : ∀ ms : List α, k = ms.map f → ∃ ls : List α, ls.Perm ms ∧ l = ls.map f := by
  induction h with
  | nil => intro ms e; cases ms with
    | nil => exact ⟨[], List.Perm.refl _, rfl⟩
    | cons => simp at e
  | cons x _ ih => intro ms e; cases ms with
    | nil => simp at e
    | cons m ms =>
      simp only [List.map_cons, List.cons.injEq] at e
      obtain ⟨ls, h1, h2⟩ := ih ms e.2
      exact ⟨m :: ls, h1.cons m, by rw [h2, e.1]; rfl⟩
  | swap x y l => intro ms e; match ms, e with
    | [], e => simp at e
    | [_], e => simp at e
    | a :: b :: ms, e =>
      simp only [List.map_cons, List.cons.injEq] at e
      obtain ⟨e1, e2, e3⟩ := e
      exact ⟨b :: a :: ms, List.Perm.swap _ _ _, by rw [e1, e2, e3]; rfl⟩
  | trans _ _ ih1 ih2 => intro ms e
                         obtain ⟨ls, h1, h2⟩ := ih2 ms e
                         obtain ⟨ls', h3, h4⟩ := ih1 ls h2
                         exact ⟨ls', h3.trans h1, h4⟩

theorem keyCells_len (K : Nat → V) (L : Nat) : (keyCells (keys K L)).length = L * 4 := by
  induction L with
  | zero => rfl
  | succ L ih => rw [keys_succ]; simp only [keyCells, List.flatMap_append, List.length_append] at ih ⊢; rw [ih]; simp; omega
theorem keyCells_at (K : Nat → V) : ∀ (L j i : Nat), j < L → i < 4 → (keyCells (keys K L))[j * 4 + i]? = [Value.int .i64 (K j).k, .int .i64 (K j).n, .string (K j).s, .int .i64 (K j).a][i]? := by
  intro L
  induction L with
  | zero => intro j i hj; omega
  | succ L ih =>
    intro j i hj hi
    rw [keys_succ]
    have e : keyCells (keys K L ++ [K L]) = keyCells (keys K L) ++ [.int .i64 (K L).k, .int .i64 (K L).n, .string (K L).s, .int .i64 (K L).a] := by simp [keyCells]
    rw [e]
    by_cases e : j = L
    · subst e
      rw [List.getElem?_append_right (by rw [keyCells_len]; omega), keyCells_len, show j * 4 + i - j * 4 = i by omega]
    · rw [List.getElem?_append_left (by rw [keyCells_len]; omega)]
      exact ih j i (by omega) hi

noncomputable def kvOf (K : Nat → V) (c : Nat) : KV := if h : isK (K c) = true then ⟨K c, h⟩ else default
theorem kvOf_val {K : Nat → V} {c : Nat} (h : isK (K c) = true) : (kvOf K c).1 = K c := by unfold kvOf; rw [dif_pos h]
noncomputable def kvs (K : Nat → V) (L : Nat) : Array KV := ((List.range L).map (kvOf K)).toArray
theorem kvs_size (K : Nat → V) (L : Nat) : (kvs K L).size = L := by simp [kvs]
theorem kvs_at (K : Nat → V) (L c : Nat) (h : c < L) : (kvs K L)[c]! = kvOf K c := by
  rw [getElem!_pos _ c (by rw [kvs_size]; exact h)]
  simp [kvs]

theorem flat_at {d : Array KV} {j i : Nat} (hj : j < d.size) (hi : i < 4) : (flatK encK 4 d)[j * 4 + i]! = (encK d[j]!)[i]! := by
  rw [get_flatK _ _ _ _ (by omega), show (j * 4 + i) / 4 = j by omega, show (j * 4 + i) % 4 = i by omega]

theorem encK_at (x : KV) {i : Nat} (hi : i < 4) : [Value.int .i64 x.1.k, .int .i64 x.1.n, .string x.1.s, .int .i64 x.1.a][i]? = some (encK x)[i]! := by
  rcases (show i = 0 ∨ i = 1 ∨ i = 2 ∨ i = 3 by omega) with rfl | rfl | rfl | rfl <;> rfl

theorem holds_keys {w : World} {base L g cap : Nat} {K : Nat → V} (hK : ∀ c, c < L → isK (K c) = true) (h : w.ownsRow base 24 4 (.slice (some ⟨g, 0, none⟩) L cap) L (keyCells (keys K L))) : HoldsK encK 4 w g 0 (kvs K L) := by
  intro t ht
  rw [size_flatK, kvs_size] at ht
  obtain ⟨j, i, hi, rfl⟩ : ∃ j i, i < 4 ∧ t = j * 4 + i := ⟨t / 4, t % 4, by omega, by omega⟩
  have hj : j < L := by omega
  have e := keyCells_at K L j i hj hi
  have hv := kvOf_val (hK j hj)
  rw [← hv, encK_at _ hi] at e
  obtain ⟨g', cap', hs, hc⟩ := owns_cell h e
  cases hs
  rw [Nat.zero_add]
  refine ⟨?_, ?_⟩
  · rw [hc, flat_at (by rw [kvs_size]; exact hj) hi, kvs_at K L j hj]
    rfl
  · rcases h.2 with ⟨hv, _⟩ | ⟨g', cap', cur, hv, _, hh, _⟩
    · cases hv
    · cases hv
      simp [World.frozen?, hh]

theorem sorted_row {w : World} {base L g cap n : Nat} {K : Nat → V} {d' : Array KV} {os : Array Obj} (hK : ∀ c, c < L → isK (K c) = true) (h : w.ownsRow base 24 4 (.slice (some ⟨g, 0, none⟩) L cap) L (keyCells (keys K L)))
    (hp : PermIn 0 L (kvs K L) d') (hs : SortedIn (ltOf fun x y : KV => ko x.1 y.1) 0 L d') :
    ∃ ls, SortI K L ls ∧ (sortWorldK encK 4 w g 0 n d' os).ownsRow base 24 4 (.slice (some ⟨g, 0, none⟩) L cap) L (keyCells (keys (byI K ls) L)) ∧ Only (fun k => k = g) w (sortWorldK encK 4 w g 0 n d' os) := by
  have hsz : d'.size = L := by rw [hp.1, kvs_size]
  have hperm : d'.toList.Perm ((List.range L).map (kvOf K)) := by
    have := hp.2.2
    rw [show d'.extract 0 L = d' by apply Array.ext_getElem?; intro i; rw [Array.getElem?_extract]; by_cases hi : i < L <;> simp [hi, hsz]] at this
    rw [show (kvs K L).extract 0 L = kvs K L by apply Array.ext_getElem?; intro i; rw [Array.getElem?_extract]; by_cases hi : i < L <;> simp [hi, kvs_size]] at this
    simpa [kvs] using this
  obtain ⟨ls, hls, hd⟩ := perm_map hperm (List.range L) rfl
  have hlen : ls.length = L := by rw [hls.length_eq]; simp
  have hat : ∀ i, i < L → d'[i]! = kvOf K (ls.getD i 0) := fun i hi => by
    rw [getElem!_pos _ i (by omega), ← Array.getElem_toList]
    simp only [hd]
    rw [List.getElem_map, List.getD_eq_getElem?_getD, List.getElem?_eq_getElem (by omega)]
    rfl
  have hlt : ∀ i, i < L → ls.getD i 0 < L := fun i hi => by
    rw [List.getD_eq_getElem?_getD, List.getElem?_eq_getElem (by omega)]
    exact List.mem_range.1 (hls.subset (List.getElem_mem _))
  refine ⟨ls, ⟨hls, ?_⟩, ?_, ?_⟩
  · unfold SortW
    rw [List.pairwise_iff_getElem]
    intro i j hi hj hij
    have := hs i j (Nat.zero_le _) hij (by omega)
    rw [ltK, hat i (by omega), hat j (by omega)] at this
    rw [kvOf_val (hK _ (hlt j (by omega))), kvOf_val (hK _ (hlt i (by omega)))] at this
    simpa [List.getD_eq_getElem?_getD, hi, hj] using this
  · refine ⟨by rw [keyCells_len], Or.inr ?_⟩
    rcases h.2 with ⟨hv, _⟩ | ⟨g', cap', cur, hv, hge, hh, hl, hm, hs', ht⟩
    · cases hv
    · cases hv
      have hgl := blk_lt hh
      refine ⟨g, cap, putCells id 0 (flatK encK 4 d') cur, rfl, hge, ?_, hl, hm, by simp [putCells, hs'], ?_⟩
      · unfold sortWorldK grow putRowK putRow mapBlock
        simp only
        rw [Array.getElem?_append_left (by simp [Sort.ahead]; exact hgl)]
        simp [Array.getElem?_modify, Sort.ahead, hh, onCells]
      · apply List.ext_getElem?
        intro t
        by_cases ht' : t < L * 4
        · obtain ⟨j, i, hi, rfl⟩ : ∃ j i, i < 4 ∧ t = j * 4 + i := ⟨t / 4, t % 4, by omega, by omega⟩
          have hj : j < L := by omega
          have e := keyCells_at (byI K ls) L j i hj hi
          unfold byI at e
          rw [← kvOf_val (hK _ (hlt j hj)), encK_at _ hi] at e
          rw [List.getElem?_take, if_pos ht']
          have hcl : j * 4 + i < cur.size := by rw [hs']; have : L * 4 ≤ cap * 4 := Nat.mul_le_mul_right 4 hl; omega
          have e2 : (putCells id 0 (flatK encK 4 d') cur).toList[j * 4 + i]? = some (flatK encK 4 d')[j * 4 + i]! := by
            simp [putCells, hcl, hsz]
            intro hx
            omega
          rw [e2, flat_at (by omega) hi, hat j hj]
          exact e.symm
        · rw [List.getElem?_eq_none (by simp; omega), List.getElem?_eq_none (by rw [keyCells_len]; omega)]
  · refine ⟨rfl, rfl, rfl, ?_, fun k hk hne => ?_⟩
    · unfold sortWorldK grow putRowK putRow mapBlock
      simp [Sort.ahead]
    · unfold sortWorldK grow putRowK putRow mapBlock
      simp only
      rw [Array.getElem?_append_left (by simp [Sort.ahead]; exact hk), Array.getElem?_modify, if_neg (fun e => hne e.symm)]
      rfl

end Go.Proofs.YtgflalfiopnmnaaGreatDoor

namespace Go.Proofs.YtgflalfiopnmnaaGreatDoor
open Go.RowKit Vl Go.Sort Go.Shelf

set_option maxHeartbeats 1000000 in
theorem sort_some (base L g cap : Nat) (K : Nat → V) (w : World) (hL : L ≤ 1000) (hK : ∀ c, c < L → isK (K c) = true) (hO : w.ownsRow base 24 4 (.slice (some ⟨g, 0, none⟩) L cap) L (keyCells (keys K L))) :
    Calls Tryz.prog 71 #[.slice (some ⟨g, 0, none⟩) L cap, .func (.func 72) #[] #[]] w fun e w' => e = .returned (.tuple #[]) ∧ ∃ ls, SortI K L ls ∧ w'.ownsRow base 24 4 (.slice (some ⟨g, 0, none⟩) L cap) L (keyCells (keys (byI K ls) L)) ∧ Only (fun k => k = g) w w' := by
  have eg : ∀ args w, (callFunc 72 args).run Tryz.prog w = .ok (.enter 72 args) w := enters_of Tryz.func72 (by kernel_rfl) rfl
  have hgl : g < w.heap.size := by
    obtain ⟨_, _, _, h⟩ := owns_form hO
    exact (h g rfl).2
  have hcon := AnyQ.slices_SortFunc Tryz.sortVal 4 (fun w => by kernel_rfl) (fun w => by kernel_rfl) encK (fun _ => rfl) (fun x v hv => by simp [encK] at hv; rcases hv with rfl | rfl | rfl | rfl <;> rfl) (fun x y => ko x.1 y.1) swoK 72 #[] g 0 cap (kvs K L) w eg (fun m os dk _ x y => Dr.implKo_grows x.1 y.1 _) (holds_keys hK hO) hgl (by rw [kvs_size]; omega)
  rw [kvs_size] at hcon
  refine Calls.mono hcon ?_
  rintro e w' ⟨he, d', n, os, hp, hs, rfl⟩
  exact ⟨he, sorted_row hK hO hp hs⟩

theorem insert_none (f : Value) (w : World) : Calls Tryz.prog 137 #[.slice none 0 0, .int .i64 0, .int .i64 0, f] w fun e w' => e = .returned (.tuple #[]) ∧ w' = w := by
  go_enter Tryz.func137, Tryz.ntmps137
  go_wp2
  go_loopw [8] (fun k wr => k = .int .i64 1 ∧ wr = w) (fun _ _ => 0)
  case atStart => exact ⟨rfl, rfl⟩
  case round =>
    obtain ⟨rfl, rfl⟩ := hrel
    go_wp2
    go_end0
    exact ⟨rfl, rfl⟩

set_option maxHeartbeats 1000000 in
set_option maxRecDepth 100000 in
theorem pdq_none (f : Value) (l : Int) (w : World) : Calls Tryz.prog 109 #[.slice none 0 0, .int .i64 0, .int .i64 0, .int .i64 l, f] w fun e w' => e = .returned (.tuple #[]) ∧ w' = w := by
  go_enter Tryz.func109, Tryz.ntmps109
  go_wp2
  go_loopw [1, 2] (fun a b wr => a = .int .i64 0 ∧ b = .int .i64 0 ∧ wr = w) (fun _ _ _ => 0)
  case atStart => exact ⟨rfl, rfl, rfl⟩
  case round =>
    obtain ⟨rfl, rfl, rfl⟩ := hrel
    go_wp2_with fail
    refine (insert_none f wr).mono ?_
    rintro e w' ⟨rfl, rfl⟩
    go_wp2
    refine bodyPost_ret (results_none rfl _ _ _) rfl ?_
    exact ⟨rfl, rfl⟩

theorem sort_none (f : Value) (w : World) : Calls Tryz.prog 71 #[.slice none 0 0, f] w fun e w' => e = .returned (.tuple #[]) ∧ w' = w := by
  have hl : Calls Tryz.prog 110 #[.int .u64 0] w fun e w' => e = .returned (.int .i64 (Lib.bitLen (0 : Int).toNat : Nat)) ∧ w' = w := Any.bits_Len (SlLaysF0.n15.bits (P := Tryz.prog) (ρ := Tryz.sortVal_ren) { Tryz.sortVal with }) 0 w (by omega) (by omega)
  have wr0 : IntKind.u64.wrap (0 : Int) = 0 := by simp [IntKind.wrap, IntKind.bits, IntKind.signed]
  obtain ⟨l, hl'⟩ : ∃ l : Int, ((Lib.bitLen (0 : Int).toNat : Nat) : Int) = l := ⟨_, rfl⟩
  rw [hl'] at hl
  clear hl'
  go_enter Tryz.func71, Tryz.ntmps71
  go_wp2_with fail
  refine hl.mono ?_
  rintro e w' ⟨rfl, rfl⟩
  go_wp2_with fail
  refine (pdq_none f l w').mono ?_
  rintro e w2 ⟨rfl, rfl⟩
  go_wp2
  go_end0
  exact ⟨rfl, rfl⟩

end Go.Proofs.YtgflalfiopnmnaaGreatDoor

namespace Go.Proofs.YtgflalfiopnmnaaGreatDoor
open Go.RowKit Vl

def sh (N : Nat) (v : V) : V := if v.k = 4 then ⟨v.k, v.n, v.s, v.a + N⟩ else v
theorem sh_zero (v : V) : sh 0 v = v := by
  unfold sh
  split
  · cases v; simp
  · rfl
theorem sh_k (N : Nat) (v : V) : (sh N v).k = v.k := by unfold sh; split <;> rfl
theorem sh_isV {N n : Nat} {v : V} (h : isV n v = true) : isV (N + n) (sh N v) = true := by
  by_cases h4 : v.k = 4
  · unfold sh
    rw [if_pos h4]
    unfold isV at h ⊢
    rw [if_neg (by omega), if_neg (by omega), if_neg (by omega), if_neg (by omega), if_pos h4] at h
    rw [if_neg (by simp only; omega), if_neg (by simp only; omega), if_neg (by simp only; omega), if_neg (by simp only; omega), if_pos (by simp only; omega)]
    simp only [Bool.and_eq_true, decide_eq_true_eq] at h ⊢
    refine ⟨h.1, h.2.1, ?_, ?_⟩
    · have := h.2.2.1; omega
    · have := h.2.2.2; omega
  · unfold sh
    rw [if_neg h4]
    unfold isV at h ⊢
    rw [if_neg h4] at h ⊢
    exact h
theorem isV_more {N n : Nat} {v : V} (h : isV N v = true) : isV (N + n) v = true := by
  by_cases h4 : v.k = 4
  · unfold isV at h ⊢
    rw [if_neg (by omega), if_neg (by omega), if_neg (by omega), if_neg (by omega), if_pos h4] at h ⊢
    simp only [Bool.and_eq_true, decide_eq_true_eq] at h ⊢
    refine ⟨h.1, h.2.1, h.2.2.1, ?_⟩
    have := h.2.2.2; omega
  · unfold isV at h ⊢
    rw [if_neg h4] at h ⊢
    exact h
theorem ifv_congr {T T' : Nat → Nat} {n : Nat} {v : V} (hv : isV n v = true) (h : v.k = 4 → T v.a.toNat = T' v.a.toNat) : ifv T v = ifv T' v := by
  by_cases h4 : v.k = 4
  · rw [ifv_tab h4, ifv_tab h4, h h4]
  · unfold ifv
    split
    · rfl
    · split
      · rfl
      · split
        · rfl
        · split
          · rfl
          · rename_i k0 k1 k2 k3
            simp [isV, k0, k1, k2, k3, h4] at hv
theorem ifv_sh {T T' : Nat → Nat} {n N : Nat} {v : V} (hv : isV n v = true) (h : ∀ j, j < n → T (N + j) = T' j) : ifv T' v = ifv T (sh N v) := by
  by_cases h4 : v.k = 4
  · obtain ⟨a0, a1⟩ := isV_tab hv h4
    rw [ifv_tab h4, ifv_tab ((sh_k N v).trans h4)]
    have e : (sh N v).a.toNat = N + v.a.toNat := by
      unfold sh
      rw [if_pos h4]
      simp only
      omega
    rw [e, h v.a.toNat (by omega)]
  · have e : sh N v = v := by unfold sh; rw [if_neg h4]
    rw [e]
    exact ifv_congr hv (fun h => absurd h h4)

def jn {α : Type} (N : Nat) (f g : Nat → α) (j : Nat) : α := if j < N then f j else g (j - N)
theorem jn_lt {α : Type} {N : Nat} {f g : Nat → α} {j : Nat} (h : j < N) : jn N f g j = f j := by unfold jn; rw [if_pos h]
theorem jn_ge {α : Type} {N : Nat} {f g : Nat → α} {j : Nat} (h : ¬ j < N) : jn N f g j = g (j - N) := by unfold jn; rw [if_neg h]
theorem jn_add {α : Type} {N : Nat} {f g : Nat → α} (j : Nat) : jn N f g (N + j) = g j := by rw [jn_ge (by omega)]; congr 1; omega

theorem Good.join {N n : Nat} {L L' : Nat → Nat} {X X' : Nat → Nat → V} (h : Good N L X) (h' : Good n L' X') : Good (N + n) (jn N L L') (jn N X (fun j c => sh N (X' j c))) := by
  intro r hr c hc
  by_cases e : r < N
  · rw [jn_lt e] at hc ⊢
    exact isV_more (h r e c hc)
  · rw [jn_ge e] at hc ⊢
    exact sh_isV (h' (r - N) (by omega) c hc)

theorem Tbs.join {w : World} {N n : Nat} {T M T' M' : Nat → Nat} {at_ at' : Nat → Int} {L L' : Nat → Nat} {K X K' X' : Nat → Nat → V} (h : Tbs w N T M at_ L K X) (h' : Tbs w n T' M' at' L' K' X') (hg : Good N L X) (hg' : Good n L' X') (hne : ∀ i j, i < N → j < n → T i ≠ T' j) :
    Tbs w (N + n) (jn N T T') (jn N M M') (jn N at_ at') (jn N L L') (jn N K K') (jn N X (fun j c => sh N (X' j c))) := by
  refine ⟨fun j hj => ?_, fun j hj => ?_, fun i j hi hj e => ?_, fun j hj l hl v hv => ?_⟩
  rotate_left 3
  · by_cases e : j < N
    · rw [jn_lt e] at hl
      rw [jn_lt e, jn_lt e] at hv
      exact h.gone j e l hl v hv
    · rw [jn_ge e] at hl
      rw [jn_ge e, jn_ge e] at hv
      exact h'.gone (j - N) (by omega) l hl v hv
  · by_cases e : j < N
    · simp only [jn_lt e]
      exact h.tab j e
    · simp only [jn_ge e]
      exact h'.tab (j - N) (by omega)
  · by_cases e : j < N
    · simp only [jn_lt e]
      obtain ⟨l, h1, h2⟩ := h.map j e
      refine ⟨l, h1, fun c hc => (h2 c hc).trans (congrArg some (ifv_congr (hg j e c hc) (fun h4 => ?_)))⟩
      obtain ⟨a0, a1⟩ := isV_tab (hg j e c hc) h4
      rw [jn_lt (by omega)]
    · simp only [jn_ge e]
      obtain ⟨l, h1, h2⟩ := h'.map (j - N) (by omega)
      exact ⟨l, h1, fun c hc => (h2 c hc).trans (congrArg some (ifv_sh (hg' (j - N) (by omega) c hc) (fun q _ => jn_add q)))⟩
  · by_cases e1 : i < N
    · by_cases e2 : j < N
      · rw [jn_lt e1, jn_lt e2] at e
        exact h.inj i j e1 e2 e
      · rw [jn_lt e1, jn_ge e2] at e
        exact absurd e (hne i (j - N) e1 (by omega))
    · by_cases e2 : j < N
      · rw [jn_ge e1, jn_lt e2] at e
        exact absurd e.symm (hne j (i - N) e2 (by omega))
      · rw [jn_ge e1, jn_ge e2] at e
        have := h'.inj (i - N) (j - N) (by omega) (by omega) e
        omega

theorem Ap.join {w : World} {base base' N n : Nat} {T M T' M' : Nat → Nat} (h : Ap w base N T M) (h' : Ap w base' n T' M') (hb : base ≤ base') (hs : ∀ j a o g, j < N → TabB w (T j) (M j) a o → o.ownBlock = some g → g < base') (hm : ∀ j, j < N → M j < base') : Ap w base (N + n) (jn N T T') (jn N M M') := by
  refine ⟨fun j hj => ?_, fun j a o g hj ht hg => ?_, fun i j a o a' o' g hi hj h1 h2 g1 g2 => ?_, fun j hj => ?_, fun i j hi hj h12 => ?_⟩
  · by_cases e : j < N
    · rw [jn_lt e]; exact h.lo j e
    · rw [jn_ge e]; exact Nat.le_trans hb (h'.lo (j - N) (by omega))
  · by_cases e : j < N
    · rw [jn_lt e, jn_lt e] at ht; exact h.own j a o g e ht hg
    · rw [jn_ge e, jn_ge e] at ht; exact Nat.le_trans hb (h'.own (j - N) a o g (by omega) ht hg)
  · by_cases e1 : i < N
    · rw [jn_lt e1, jn_lt e1] at h1
      by_cases e2 : j < N
      · rw [jn_lt e2, jn_lt e2] at h2
        exact h.one i j a o a' o' g e1 e2 h1 h2 g1 g2
      · rw [jn_ge e2, jn_ge e2] at h2
        have := hs i a o g e1 h1 g1
        have := h'.own (j - N) a' o' g (by omega) h2 g2
        omega
    · rw [jn_ge e1, jn_ge e1] at h1
      by_cases e2 : j < N
      · rw [jn_lt e2, jn_lt e2] at h2
        have := hs j a' o' g e2 h2 g2
        have := h'.own (i - N) a o g (by omega) h1 g1
        omega
      · rw [jn_ge e2, jn_ge e2] at h2
        have := h'.one (i - N) (j - N) a o a' o' g (by omega) (by omega) h1 h2 g1 g2
        omega
  · by_cases e : j < N
    · rw [jn_lt e]; exact h.mlo j e
    · rw [jn_ge e]; exact Nat.le_trans hb (h'.mlo (j - N) (by omega))
  · by_cases e1 : i < N
    · rw [jn_lt e1] at h12
      by_cases e2 : j < N
      · rw [jn_lt e2] at h12
        exact h.mone i j e1 e2 h12
      · rw [jn_ge e2] at h12
        have := hm i e1
        have := h'.mlo (j - N) (by omega)
        omega
    · rw [jn_ge e1] at h12
      by_cases e2 : j < N
      · rw [jn_lt e2] at h12
        have := hm j e2
        have := h'.mlo (i - N) (by omega)
        omega
      · rw [jn_ge e2] at h12
        have := h'.mone (i - N) (j - N) (by omega) (by omega) h12
        omega

def upd {α : Type} (f : Nat → α) (r : Nat) (x : α) (j : Nat) : α := if j = r then x else f j
theorem upd_same {α : Type} (f : Nat → α) (r : Nat) (x : α) : upd f r x r = x := by unfold upd; rw [if_pos rfl]
theorem upd_ne {α : Type} (f : Nat → α) {r j : Nat} (x : α) (h : j ≠ r) : upd f r x j = f j := by unfold upd; rw [if_neg h]

theorem Tbs.keyNe {w : World} {n : Nat} {T M : Nat → Nat} {at_ : Nat → Int} {L : Nat → Nat} {K X : Nat → Nat → V} (h : Tbs w n T M at_ L K X) {r : Nat} (hr : r < n) {a : Int} {o : Value} {g : Nat} (ht : TabB w (T r) (M r) a o) (hg : o.ownBlock = some g) : (∀ j, j < n → T j ≠ g ∧ M j ≠ g) ∧ ∃ cur, w.heap[g]? = some (.cells cur 24 (0, 0)) := by
  obtain ⟨ord, h1, h2⟩ := h.tab r hr
  have e := h1.ord ht
  subst e
  obtain ⟨_, cur, hc⟩ := owns_type h2 hg
  refine ⟨fun j hj => ⟨fun e => ?_, fun e => ?_⟩, cur, hc⟩
  · obtain ⟨ord', k1, _⟩ := h.tab j hj
    unfold TabB at k1
    rw [e, hc] at k1
    cases k1
  · obtain ⟨l, k1, _⟩ := h.map j hj
    obtain ⟨es, clk, hb, _⟩ := k1
    rw [e, hc] at hb
    cases hb

theorem Tbs.sorted {w w' : World} {base n : Nat} {T M : Nat → Nat} {at_ : Nat → Int} {L : Nat → Nat} {K X : Nat → Nat → V} (h : Tbs w n T M at_ L K X) (hp : Ap w base n T M) {r : Nat} (hr : r < n) {a : Int} {o : Value} {g : Nat} (ht : TabB w (T r) (M r) a o) (hg : o.ownBlock = some g) {ls : List Nat} (hS : SortI (K r) (L r) ls) (hO : w'.ownsRow 0 24 4 o (L r) (keyCells (keys (byI (K r) ls) (L r)))) (ho : Only (fun k => k = g) w w') :
    Tbs w' n T M at_ L (upd K r (byI (K r) ls)) (upd X r (byI (X r) ls)) ∧ Ap w' base n T M := by
  obtain ⟨hne, _⟩ := h.keyNe hr ht hg
  have hT : ∀ j, j < n → w'.heap[T j]? = w.heap[T j]? := fun j hj => ho.block _ (h.lt hj) (hne j hj).1
  refine ⟨⟨fun j hj => ?_, fun j hj => ?_, h.inj, fun j hj l hl v hv => ?_⟩, hp.same hT⟩
  rotate_left 2
  · obtain ⟨l0, h1, _⟩ := h.map j hj
    have hl' : MapIs w (M j) l := hl.same (ho.block _ h1.lt (hne j hj).2).symm
    refine h.gone j hj l hl' v (fun c hc => ?_)
    by_cases e : j = r
    · subst e
      rw [upd_same] at hv
      obtain ⟨q, hq, e2⟩ := List.mem_iff_getElem.1 (hS.perm.symm.subset (List.mem_range.2 hc))
      have := hv q (by rw [← hS.len]; exact hq)
      unfold byI at this
      rw [List.getD_eq_getElem?_getD, List.getElem?_eq_getElem hq, e2] at this
      exact this
    · rw [upd_ne K _ e] at hv
      exact hv c hc
  · obtain ⟨ord, h1, h2⟩ := h.tab j hj
    by_cases e : j = r
    · subst e
      have e := h1.ord ht
      subst e
      rw [upd_same]
      exact ⟨ord, (hT j hj).trans h1, hO⟩
    · rw [upd_ne K _ e]
      exact ⟨ord, (hT j hj).trans h1, ho.ownsB h2 (fun g' hg' e' => e (by subst e'; exact hp.one j r _ _ _ _ _ hj hr h1 ht hg' hg))⟩
  · obtain ⟨l, h1, h2⟩ := h.map j hj
    refine ⟨l, h1.same (ho.block _ h1.lt (hne j hj).2), fun c hc => ?_⟩
    by_cases e : j = r
    · subst e
      rw [upd_same, upd_same]
      exact h2 _ (hS.lt hc)
    · rw [upd_ne K _ e, upd_ne X _ e]
      exact h2 c hc

theorem Ap.setAt {w : World} {base n : Nat} {T M : Nat → Nat} {at_ : Nat → Int} {L : Nat → Nat} {K X : Nat → Nat → V} (hp : Ap w base n T M) (h : Tbs w n T M at_ L K X) {r : Nat} (hr : r < n) (i : Int) : Ap (w.setCell ⟨T r, 0, none⟩ (.int .i64 i)) base n T M := by
  have old : ∀ j a o, j < n → TabB (w.setCell ⟨T r, 0, none⟩ (.int .i64 i)) (T j) (M j) a o → TabB w (T j) (M j) (at_ j) o := fun j a o hj h' => by
    obtain ⟨ord, h1, _⟩ := h.tab j hj
    by_cases e : j = r
    · subst e
      have k2 : TabB (w.setCell ⟨T j, 0, none⟩ (.int .i64 i)) (T j) (M j) i ord := by
        unfold TabB at h1 ⊢
        simp [World.setCell, Array.getElem?_modify, h1]
      rw [← k2.ord h']
      exact h1
    · have k2 : TabB (w.setCell ⟨T r, 0, none⟩ (.int .i64 i)) (T j) (M j) (at_ j) ord := (Below.heap_setCell _ _ _ _ (show T j ≠ T r from fun x => e (h.inj j r hj hr x))).trans h1
      rw [← k2.ord h']
      exact h1
  exact ⟨hp.lo, fun j a o g hj ht hg => hp.own j _ o g hj (old j a o hj ht) hg, fun i j a o a' o' g hi hj h1 h2 g1 g2 => hp.one i j _ o _ o' g hi hj (old i a o hi h1) (old j a' o' hj h2) g1 g2, hp.mlo, hp.mone⟩

end Go.Proofs.YtgflalfiopnmnaaGreatDoor

namespace Go.Proofs.YtgflalfiopnmnaaGreatDoor
open Go.RowKit Vl

structure Lk where
  was : Nat
  parts : Nat → Nat

def lkCells (l : Lk) : List Value := .int .i64 (l.was : Nat) :: (List.range 100).map fun i => .int .u16 (l.parts i : Nat)
theorem lkCells_len (l : Lk) : (lkCells l).length = 101 := by simp [lkCells]
abbrev lkV (l : Lk) : Value := .agg (lkCells l).toArray
def lkEq (a b : Lk) : Bool := a.was == b.was && (List.range 100).all fun i => a.parts i == b.parts i
theorem lkEq_iff {a b : Lk} : lkEq a b = true ↔ a.was = b.was ∧ ∀ i, i < 100 → a.parts i = b.parts i := by
  simp [lkEq]

theorem look_chk (em : Bool) (l : Lk) (w : World) : (Instr.checkKey em 10000 220 (lkV l)).run Tryz.prog w = .ok () w := by
  kernel_rfl

theorem isAgg_no {t : TypeId} {k : IntKind} (h : Tryz.prog.underlying t = some (.int k)) (w : World) : (isAgg t).run Tryz.prog w = .ok false w := by
  unfold isAgg
  rw [Sem.run_bind, run_underlying h w]
  rfl

theorem eq_items (d : Nat) (xs ys : Array Value) (p q : Nat → Nat) (w : World) : ∀ is : List Nat, (∀ i ∈ is, xs[i]? = some (.int .u16 (p i : Nat)) ∧ ys[i]? = some (.int .u16 (q i : Nat))) → (Op.eqItems (d + 1) 217 1 xs ys is).run Tryz.prog w = .ok (is.all fun i => p i == q i) w
  | [], _ => rfl
  | i :: is, h => by
    obtain ⟨h1, h2⟩ := h i (by simp)
    have e1 : (part 217 xs (i * 1)).run Tryz.prog w = .ok (.int .u16 (p i : Nat)) w := by
      unfold part
      rw [Sem.run_bind, isAgg_no Tryz.underlying217]
      simp [h1]
    have e2 : (part 217 ys (i * 1)).run Tryz.prog w = .ok (.int .u16 (q i : Nat)) w := by
      unfold part
      rw [Sem.run_bind, isAgg_no Tryz.underlying217]
      simp [h2]
    have ih := eq_items d xs ys p q w is (fun j hj => h j (by simp [hj]))
    simp only [Op.eqItems, Sem.run_bind, e1, e2, Result.andThen_ok, run_equalIn_int w d 217 .u16 .u16 _ _ Tryz.underlying217]
    have hb : ((p i : Int) == (q i : Int)) = (p i == q i) := by
      by_cases e : p i = q i
      · rw [e, beq_self_eq_true, beq_self_eq_true]
      · have e' : ¬ ((p i : Int) = (q i : Int)) := by omega
        rw [beq_false_of_ne e, beq_false_of_ne e']
    rw [hb]
    cases hc : p i == q i
    · simp [hc]
    · simp only [Bool.not_true, Bool.false_eq_true, if_false, List.all_cons, hc, Bool.true_and]
      exact ih

theorem lk_at0 (l : Lk) : (lkCells l).toArray[0]? = some (.int .i64 (l.was : Nat)) := by simp [lkCells]
theorem lk_part (l : Lk) (i : Nat) (hi : i < 100) : ((lkCells l).toArray.extract 1 101)[i]? = some (.int .u16 (l.parts i : Nat)) := by
  rw [Array.getElem?_extract, if_pos (by simp [lkCells]; omega)]
  have e : (lkCells l)[1 + i]? = some (.int .u16 (l.parts i : Nat)) := by
    rw [Nat.add_comm]
    simp [lkCells, hi]
  simpa using e

theorem eq_arr (d : Nat) (xs ys : Array Value) (p q : Nat → Nat) (w : World) (h : ∀ i, i < 100 → xs[i]? = some (.int .u16 (p i : Nat)) ∧ ys[i]? = some (.int .u16 (q i : Nat))) : (Op.equalIn (d + 2) 218 (.agg xs) (.agg ys)).run Tryz.prog w = .ok ((List.range 100).all fun i => p i == q i) w := by
  obtain ⟨iu, hiu⟩ : ∃ iu, Tryz.prog.info? 217 = some iu := by
    have h : (Tryz.prog.info? 217).isSome = true := by kernel_rfl
    exact Option.isSome_iff_exists.1 h
  have hcell : Tryz.prog.cellsOf 217 = 1 := by kernel_rfl
  rw [run_equalIn_array w (d + 1) xs ys Tryz.underlying218 hiu, hcell]
  exact eq_items d xs ys p q w _ (fun i hi => h i (List.mem_range.1 hi))

theorem part_int (xs : Array Value) (u : Value) (w : World) (h : xs[0]? = some u) : (part 3 xs 0).run Tryz.prog w = .ok u w := by
  unfold part
  rw [Sem.run_bind, isAgg_no Tryz.underlying3]
  simp [h]
theorem part_arr (xs : Array Value) (w : World) : (part 218 xs 1).run Tryz.prog w = .ok (.agg (xs.extract 1 (1 + 100))) w := by
  have h1 : (isAgg 218).run Tryz.prog w = .ok true w := by kernel_rfl
  have h2 : (sizeOf 218).run Tryz.prog w = .ok 100 w := by kernel_rfl
  unfold part
  rw [Sem.run_bind, h1]
  simp only [Result.andThen_ok, if_true, Sem.run_bind, h2, Sem.run_pure]

theorem eq_look (d : Nat) (xs ys : Array Value) (u v : Nat) (p q : Nat → Nat) (w : World) (hu : xs[0]? = some (.int .i64 (u : Nat))) (hv : ys[0]? = some (.int .i64 (v : Nat))) (h : ∀ i, i < 100 → (xs.extract 1 (1 + 100))[i]? = some (.int .u16 (p i : Nat)) ∧ (ys.extract 1 (1 + 100))[i]? = some (.int .u16 (q i : Nat))) :
    (Op.equalIn (d + 3) 220 (.agg xs) (.agg ys)).run Tryz.prog w = .ok (u == v && (List.range 100).all fun i => p i == q i) w := by
  rw [run_equalIn_struct w (d + 2) 220 xs ys (by kernel_rfl) (by kernel_rfl)]
  have hf : (Tryz.prog.fieldsOf 220).toList.map (fun f => (f.name == "_", f.type, f.offset)) = [(false, 3, 0), (false, 218, 1)] := by kernel_rfl
  generalize (Tryz.prog.fieldsOf 220).toList = fs at hf
  obtain ⟨f, g, rfl⟩ : ∃ f g, fs = [f, g] := by
    cases fs with
    | nil => simp at hf
    | cons f fs =>
      cases fs with
      | nil => simp at hf
      | cons g fs =>
        cases fs with
        | nil => exact ⟨f, g, rfl⟩
        | cons => simp at hf
  simp only [List.map_cons, List.map_nil, List.cons.injEq, Prod.mk.injEq, and_true] at hf
  obtain ⟨⟨f1, f2, f3⟩, ⟨g1, g2, g3⟩⟩ := hf
  have f1' : f.name ≠ "_" := by simpa using f1
  have g1' : g.name ≠ "_" := by simpa using g1
  have hb : ((u : Int) == (v : Int)) = (u == v) := by
    by_cases e : u = v
    · rw [e, beq_self_eq_true, beq_self_eq_true]
    · have e' : ¬ ((u : Int) = (v : Int)) := by omega
      rw [beq_false_of_ne e, beq_false_of_ne e']
  have e3 := eq_arr d _ _ p q w h
  generalize (List.range 100).all (fun i => p i == q i) = r at e3 ⊢
  have e4 : (Op.eqFields (d + 2) xs ys [g]).run Tryz.prog w = .ok r w := by
    unfold Op.eqFields
    rw [if_pos g1', g2, g3]
    simp only [Sem.run_bind, part_arr, Result.andThen_ok, e3]
    cases r
    · simp only [Bool.not_false, if_true, Sem.run_pure]
    · simp only [Bool.not_true, Bool.false_eq_true, if_false, Op.eqFields, Sem.run_pure]
  unfold Op.eqFields
  rw [if_pos f1', f2, f3]
  simp only [Sem.run_bind, part_int xs _ w hu, part_int ys _ w hv, Result.andThen_ok, run_equalIn_int w (d + 1) 3 .i64 .i64 _ _ Tryz.underlying3, hb]
  cases u == v
  · simp only [Bool.not_false, if_true, Bool.false_and, Sem.run_pure]
  · simp only [Bool.not_true, Bool.false_eq_true, if_false, Bool.true_and]
    exact e4

theorem look_eq (a b : Lk) (w : World) : (Op.equal 220 (lkV a) (lkV b)).run Tryz.prog w = .ok (lkEq a b) w :=
  eq_look 9997 (lkCells a).toArray (lkCells b).toArray a.was b.was a.parts b.parts w (lk_at0 a) (lk_at0 b) (fun i hi => ⟨lk_part a i hi, lk_part b i hi⟩)

theorem look_keyed : Keyed 258 220 3 lkV (fun _ _ => True) lkEq (.int .i64 0) where
  und := Tryz.underlying258
  eq := fun u v w _ _ => look_eq u v w
  chk := fun em v w => look_chk em v w
  now := ⟨_, Tryz.underlying220, fun u v => rfl⟩
  zero := fun w => by kernel_rfl

end Go.Proofs.YtgflalfiopnmnaaGreatDoor

namespace Go.Proofs.YtgflalfiopnmnaaGreatDoor
open Go.RowKit Vl

instance instV : BEq V := ⟨eqV⟩
instance instLV : LawfulBEq V where
  eq_of_beq h := eqV_iff.1 h
  rfl := eqV_iff.2 rfl

abbrev PV2 := V × V
abbrev pAgg (p : PV2) : Value := .agg #[.int .i64 p.1.k, .int .i64 p.1.n, .string p.1.s, .int .i64 p.1.a, .int .i64 p.2.k, .int .i64 p.2.n, .string p.2.s, .int .i64 p.2.a]

theorem eqIn_val (d : Nat) (u v : V) (w : World) : (Op.equalIn (d + 2) 24 (vAgg u) (vAgg v)).run Tryz.prog w = .ok (eqV u v) w := by
  go_simp
  by_cases h1 : u.k = v.k <;> by_cases h2 : u.n = v.n <;> by_cases h3 : u.s.toList = v.s.toList <;> by_cases h4 : u.a = v.a <;> simp [eqV, h1, h2, h3, h4]

theorem part_val (p : PV2) (w : World) : (part 24 #[.int .i64 p.1.k, .int .i64 p.1.n, .string p.1.s, .int .i64 p.1.a, .int .i64 p.2.k, .int .i64 p.2.n, .string p.2.s, .int .i64 p.2.a] 0).run Tryz.prog w = .ok (vAgg p.1) w ∧ (part 24 #[.int .i64 p.1.k, .int .i64 p.1.n, .string p.1.s, .int .i64 p.1.a, .int .i64 p.2.k, .int .i64 p.2.n, .string p.2.s, .int .i64 p.2.a] 4).run Tryz.prog w = .ok (vAgg p.2) w := by
  constructor <;> kernel_rfl

theorem eq_pair (d : Nat) (p q : PV2) (w : World) : (Op.equalIn (d + 3) 39 (pAgg p) (pAgg q)).run Tryz.prog w = .ok (p == q) w := by
  rw [run_equalIn_struct w (d + 2) 39 _ _ (by kernel_rfl) (by kernel_rfl)]
  have hf : (Tryz.prog.fieldsOf 39).toList.map (fun f => (f.name == "_", f.type, f.offset)) = [(false, 24, 0), (false, 24, 4)] := by kernel_rfl
  generalize (Tryz.prog.fieldsOf 39).toList = fs at hf
  obtain ⟨f, g, rfl⟩ : ∃ f g, fs = [f, g] := by
    cases fs with
    | nil => simp at hf
    | cons f fs =>
      cases fs with
      | nil => simp at hf
      | cons g fs =>
        cases fs with
        | nil => exact ⟨f, g, rfl⟩
        | cons => simp at hf
  simp only [List.map_cons, List.map_nil, List.cons.injEq, Prod.mk.injEq, and_true] at hf
  obtain ⟨⟨f1, f2, f3⟩, ⟨g1, g2, g3⟩⟩ := hf
  have f1' : f.name ≠ "_" := by simpa using f1
  have g1' : g.name ≠ "_" := by simpa using g1
  have e4 : (Op.eqFields (d + 2) #[.int .i64 p.1.k, .int .i64 p.1.n, .string p.1.s, .int .i64 p.1.a, .int .i64 p.2.k, .int .i64 p.2.n, .string p.2.s, .int .i64 p.2.a] #[.int .i64 q.1.k, .int .i64 q.1.n, .string q.1.s, .int .i64 q.1.a, .int .i64 q.2.k, .int .i64 q.2.n, .string q.2.s, .int .i64 q.2.a] [g]).run Tryz.prog w = .ok (eqV p.2 q.2) w := by
    unfold Op.eqFields
    rw [if_pos g1', g2, g3]
    simp only [Sem.run_bind, (part_val p w).2, (part_val q w).2, Result.andThen_ok, eqIn_val d]
    cases eqV p.2 q.2
    · simp only [Bool.not_false, if_true, Sem.run_pure]
    · simp only [Bool.not_true, Bool.false_eq_true, if_false, Op.eqFields, Sem.run_pure]
  have e5 : (p == q) = (eqV p.1 q.1 && eqV p.2 q.2) := rfl
  rw [e5]
  unfold Op.eqFields
  rw [if_pos f1', f2, f3]
  simp only [Sem.run_bind, (part_val p w).1, (part_val q w).1, Result.andThen_ok, eqIn_val d]
  cases eqV p.1 q.1
  · simp only [Bool.not_false, if_true, Bool.false_and, Sem.run_pure]
  · simp only [Bool.not_true, Bool.false_eq_true, if_false, Bool.true_and]
    exact e4

theorem pair_keyed : Keyed 215 39 217 pAgg (fun _ _ => True) (fun p q => p == q) (.int .u16 0) where
  und := Tryz.underlying215
  eq := fun u v w _ _ => eq_pair 9997 u v w
  chk := fun em v w => by kernel_rfl
  now := ⟨_, Tryz.underlying39, fun u v => rfl⟩
  zero := fun w => by kernel_rfl

def knM (kn : List PV2) (s : Nat) : List (PV2 × Value) := (kn.zipIdx s).map fun p => (p.1, .int .u16 ((p.2 + 1 : Nat) : Int))
theorem knM_snoc (kn : List PV2) (p : PV2) (s : Nat) : knM (kn ++ [p]) s = knM kn s ++ [(p, .int .u16 ((s + kn.length + 1 : Nat) : Int))] := by
  unfold knM
  rw [List.zipIdx_append]
  simp
theorem knM_len (kn : List PV2) (s : Nat) : (knM kn s).length = kn.length := by simp [knM]
theorem knM_find (p : PV2) : ∀ (kn : List PV2) (s : Nat), findG (fun p q => p == q) p (knM kn s) = if p ∈ kn then some (.int .u16 ((s + kn.idxOf p + 1 : Nat) : Int)) else none
  | [], s => rfl
  | q :: kn, s => by
    have ih := knM_find p kn (s + 1)
    have e : knM (q :: kn) s = (q, .int .u16 ((s + 1 : Nat) : Int)) :: knM kn (s + 1) := rfl
    rw [e]
    simp only [findG]
    by_cases h : p = q
    · subst h
      rw [if_pos (by simp), if_pos (by simp)]
      simp
    · rw [if_neg (by simpa using h), ih]
      by_cases hm : p ∈ kn
      · rw [if_pos hm, if_pos (by simp [hm])]
        have hq : (q == p) = false := by simpa using fun e => h e.symm
        rw [List.idxOf_cons, hq]
        simp only [cond_false]
        congr 3
        omega
      · rw [if_neg hm, if_neg (by simp [hm, h])]

def addTo (kn : List PV2) (p : PV2) : List PV2 := if p ∈ kn then kn else kn ++ [p]
theorem addTo_pre (kn : List PV2) (p : PV2) : kn <+: addTo kn p := by
  unfold addTo
  split
  · exact List.prefix_refl _
  · exact List.prefix_append _ _
theorem addTo_mem (kn : List PV2) (p : PV2) : p ∈ addTo kn p := by
  unfold addTo
  split
  · assumption
  · simp
theorem addTo_len (kn : List PV2) (p : PV2) : (addTo kn p).length ≤ kn.length + 1 := by
  unfold addTo
  split
  · omega
  · simp
def kns (kn : List PV2) (pr : Nat → PV2) : Nat → List PV2
  | 0 => kn
  | c + 1 => addTo (kns kn pr c) (pr c)
theorem kns_pre (kn : List PV2) (pr : Nat → PV2) : ∀ {c d : Nat}, c ≤ d → kns kn pr c <+: kns kn pr d := by
  intro c d h
  induction h with
  | refl => exact List.prefix_refl _
  | step _ ih => exact ih.trans (addTo_pre _ _)
theorem kns_mem (kn : List PV2) (pr : Nat → PV2) {c d : Nat} (h : c < d) : pr c ∈ kns kn pr d := (kns_pre kn pr (show c + 1 ≤ d from h)).subset (addTo_mem _ _)
theorem kns_len (kn : List PV2) (pr : Nat → PV2) : ∀ c, (kns kn pr c).length ≤ kn.length + c
  | 0 => Nat.le_refl _
  | c + 1 => by have := kns_len kn pr c; have := addTo_len (kns kn pr c) (pr c); show (addTo (kns kn pr c) (pr c)).length ≤ _; omega
theorem idx_pre {kn kn' : List PV2} (h : kn <+: kn') {p : PV2} (hp : p ∈ kn) : kn'.idxOf p = kn.idxOf p := by
  obtain ⟨t, rfl⟩ := h
  rw [List.idxOf_append, if_pos hp]

end Go.Proofs.YtgflalfiopnmnaaGreatDoor

namespace Go.Proofs.YtgflalfiopnmnaaGreatDoor
open Go.RowKit Vl

theorem eqlV (u v : V) (w : World) : (binOp .eql 24 (.agg #[.int .i64 u.k, .int .i64 u.n, .string u.s, .int .i64 u.a]) (.agg #[.int .i64 v.k, .int .i64 v.n, .string v.s, .int .i64 v.a])).run Tryz.prog w = .ok (.bool (eqV u v)) w := by
  go_simp
  by_cases h1 : u.k = v.k <;> by_cases h2 : u.n = v.n <;> by_cases h3 : u.s.toList = v.s.toList <;> by_cases h4 : u.a = v.a <;> simp [eqV, h1, h2, h3, h4]

def ClsAt (w : World) (g n : Nat) (cl : Nat → Nat) : Prop := ∀ i, i < n → w.cell? ⟨g, i, none⟩ = some (.int .i64 (cl i : Nat))
theorem ClsAt.below {w w' : World} {g n : Nat} {cl : Nat → Nat} (h : ClsAt w g n cl) (hb : Below w.heap.size w w') : ClsAt w' g n cl := fun i hi => (hb.cell (p := ⟨g, i, none⟩) (World.block_lt_of_cell? _ _ (h i hi))).trans (h i hi)

set_option maxHeartbeats 1000000 in
set_option maxRecDepth 100000 in
theorem l3alike_any (u v : V) (n g cp : Nat) (cl : Nat → Nat) (w : World) (hu : isV n u = true) (hv : isV n v = true) (HC : Hid (ClsAt w g n cl)) :
    Calls Tryz.prog 44 #[.agg #[.int .i64 u.k, .int .i64 u.n, .string u.s, .int .i64 u.a], .agg #[.int .i64 v.k, .int .i64 v.n, .string v.s, .int .i64 v.a], .slice (some ⟨g, 0, none⟩) n cp] w fun e w' => e = .returned (.bool (alike cl u v)) ∧ Below w.heap.size w w' := by
  have hb : Hid (Below w.heap.size w ((w.alloc (.cells #[.int .i64 u.k, .int .i64 u.n, .string u.s, .int .i64 u.a] 24)).alloc (.cells #[.int .i64 v.k, .int .i64 v.n, .string v.s, .int .i64 v.a] 24))) := (alloc2 w _ _).2.2.2
  by_cases hk : u.k = v.k
  · have hne : (u.k != v.k) = false := by simpa using hk
    by_cases h4 : u.k = 4
    · have h4' : (u.k == 4) = true := by simpa using h4
      obtain ⟨a0, a1⟩ := isV_tab hu h4
      obtain ⟨b0, b1⟩ := isV_tab hv (by omega)
      obtain ⟨i, hi⟩ : ∃ i : Nat, u.a = i := ⟨u.a.toNat, by omega⟩
      obtain ⟨j, hj⟩ : ∃ j : Nat, v.a = j := ⟨v.a.toNat, by omega⟩
      have ci := HC.out i (by omega)
      have cj := HC.out j (by omega)
      have gl : g < w.heap.size := World.block_lt_of_cell? _ _ ci
      have gl' : g < w.heap.size + 1 := by omega
      have hbi : (0 : Int) ≤ (i : Int) ∧ (i : Int) < (n : Int) := by omega
      have hbj : (0 : Int) ≤ (j : Int) ∧ (j : Int) < (n : Int) := by omega
      have hR : Hid (alike cl u v = (cl i == cl j)) := by
        show _ = _
        unfold alike
        rw [if_pos h4, hi, hj]
        simp [hk]
      rw [hR.out]
      rw [hi, hj] at hb
      rw [hi, hj]
      obtain ⟨p, hp⟩ : ∃ p, cl i = p := ⟨_, rfl⟩
      obtain ⟨q, hq⟩ : ∃ q, cl j = q := ⟨_, rfl⟩
      rw [hp] at ci
      rw [hq] at cj
      rw [hp, hq]
      have hbe : ((p : Int) == (q : Int)) = (p == q) := by
        by_cases e : p = q
        · rw [e, beq_self_eq_true, beq_self_eq_true]
        · have e' : ¬ ((p : Int) = (q : Int)) := by omega
          rw [beq_false_of_ne e, beq_false_of_ne e']
      clear h4 hk hi hj hp hq a0 a1 b0 b1
      go_enter Tryz.func44, Tryz.ntmps44
      go_wp2
      go_quiet (fail)
      go_wp2
      go_ret
      exact ⟨rfl, below_drewN hb.out nq⟩
    · have h4' : (u.k == 4) = false := by simpa using h4
      have hR : Hid (alike cl u v = eqV u v) := by
        show _ = _
        unfold alike
        rw [if_neg h4]
        simp [hk]
      rw [hR.out]
      have heq := eqlV u v
      clear h4 hk
      go_enter Tryz.func44, Tryz.ntmps44
      go_wp2
      go_ret
      exact ⟨rfl, hb.out⟩
  · have hne : (u.k != v.k) = true := by simpa using hk
    have hR : Hid (alike cl u v = false) := by
      show _ = _
      unfold alike
      simp [hk]
    rw [hR.out]
    go_enter Tryz.func44, Tryz.ntmps44
    go_wp2
    go_ret
    exact ⟨rfl, hb.out⟩

theorem cellB {w1 : World} {p : Addr} {v : Value} (h : w1.cell? p = some v) : ∀ w', Below w1.heap.size w1 w' → w'.cell? p = some v := fun _ hb => (hb.cell (World.block_lt_of_cell? _ _ h)).trans h
theorem neqV (u v : V) (w : World) : (binOp .neq 24 (.agg #[.int .i64 u.k, .int .i64 u.n, .string u.s, .int .i64 u.a]) (.agg #[.int .i64 v.k, .int .i64 v.n, .string v.s, .int .i64 v.a])).run Tryz.prog w = .ok (.bool (!eqV u v)) w := by
  rw [neq_val]
  rfl

structure Look2 (L L' : Nat) (K X K' X' : Nat → V) (cl : Nat → Nat) : Prop where
  len : L = L'
  all : ∀ c, c < L → K c = K' c ∧ alike cl (X c) (X' c) = true

set_option maxHeartbeats 2000000 in
set_option maxRecDepth 100000 in
theorem l3looks_any (pa pa' : Option Addr) (L C B O L' C' B' O' : Nat) (K X K' X' : Nat → V) (n g cp : Nat) (cl : Nat → Nat) (w : World) (hL : L ≤ 1000) (hL' : L' ≤ 1000) (HV : Hid (∀ c, c < L → isV n (X c) = true)) (HV' : Hid (∀ c, c < L' → isV n (X' c) = true))
    (HP : Hid (PairsAt w pa L B O K X)) (HP' : Hid (PairsAt w pa' L' B' O' K' X')) (HC : Hid (ClsAt w g n cl)) :
    Calls Tryz.prog 83 #[.agg #[.slice pa L C], .agg #[.slice pa' L' C'], .slice (some ⟨g, 0, none⟩) n cp] w fun e w' => Tells (Look2 L L' K X K' X' cl) e ∧ Below w.heap.size w w' := by
  have A2 : Hid _ := alloc2 w (.cells #[.slice pa L C] 37) (.cells #[.slice pa' L' C'] 37)
  obtain ⟨w1, hw1⟩ : ∃ w1, w1 = (w.alloc (.cells #[.slice pa L C] 37)).alloc (.cells #[.slice pa' L' C'] 37) := ⟨_, rfl⟩
  have T1 : Hid (w1.heap[w.heap.size]? = some (.cells #[.slice pa L C] 37 (0, 0))) := by rw [hw1]; exact A2.out.1
  have T2 : Hid (w1.heap[w.heap.size + 1]? = some (.cells #[.slice pa' L' C'] 37 (0, 0))) := by rw [hw1]; exact A2.out.2.1
  have HB1 : Hid (Below w.heap.size w w1) := by rw [hw1]; exact A2.out.2.2.2
  clear A2
  by_cases hl : L = L'
  · subst hl
    have hne : (L != L) = false := by simp
    go_enter Tryz.func83, Tryz.ntmps83
    go_wp2
    rw [← hw1]
    clear hw1
    go_loopw [18] (fun ii wr => ∃ c : Nat, c ≤ L ∧ ii = .int .i64 c ∧ Hid (∀ q, q < c → K q = K' q ∧ alike cl (X q) (X' q) = true) ∧ Hid (Below w1.heap.size w1 wr)) (fun ii _ => L - (intOf ii).toNat)
    case atStart => exact ⟨0, Nat.zero_le _, rfl, fun q hq => absurd hq (Nat.not_lt_zero _), Below.refl _ _⟩
    case round =>
      obtain ⟨c, hc, rfl, HQ, HBr⟩ := hrel
      have HBw : Hid (Below w.heap.size w wr) := grw HB1.out HBr.out
      by_cases hlt : c < L
      · obtain rfl := HP.out.top (by omega)
        obtain rfl := HP'.out.top (by omega)
        obtain ⟨⟨k0, k1, k2, k3⟩, ⟨v0, v1, v2, v3⟩⟩ := (HP.out.below HBw.out).cells hlt
        obtain ⟨⟨k0', k1', k2', k3'⟩, ⟨v0', v1', v2', v3'⟩⟩ := (HP'.out.below HBw.out).cells hlt
        obtain ⟨t1, _⟩ := one_at (blkB T1.out HBr.out)
        obtain ⟨t2, _⟩ := one_at (blkB T2.out HBr.out)
        have hneq := neqV (K c) (K' c)
        obtain ⟨be, hbe⟩ : ∃ b, eqV (K c) (K' c) = b := ⟨_, rfl⟩
        rw [hbe] at hneq
        have hbc : (0 : Int) ≤ (c : Int) ∧ (c : Int) < (L : Int) := by omega
        cases be
        · have HN : Hid (¬ Look2 L L K X K' X' cl) := show ¬ _ from fun h => by
            have := (h.all c hlt).1
            rw [eqV_iff.2 this] at hbe
            cases hbe
          clear hbe
          go_wp2
          go_quiet (fail)
          go_wp2
          go_ret
          exact ⟨tells_no HN.out, below_drewN HBw.out nq⟩
        · have HK : Hid (K c = K' c) := eqV_iff.1 hbe
          clear hbe
          have hcall := l3alike_any (X c) (X' c) n g cp cl wr.drew (HV.out c hlt) (HV'.out c hlt) (HC.out.below HBw.out.drew)
          obtain ⟨ba, HBA⟩ : ∃ b, Hid (alike cl (X c) (X' c) = b) := ⟨_, rfl⟩
          rw [HBA.out] at hcall
          replace k0 := cellB k0
          replace k1 := cellB k1
          replace k2 := cellB k2
          replace k3 := cellB k3
          replace v0 := cellB v0
          replace v1 := cellB v1
          replace v2 := cellB v2
          replace v3 := cellB v3
          replace k0' := cellB k0'
          replace k1' := cellB k1'
          replace k2' := cellB k2'
          replace k3' := cellB k3'
          replace v0' := cellB v0'
          replace v1' := cellB v1'
          replace v2' := cellB v2'
          replace v3' := cellB v3'
          replace t1 := cellB t1
          replace t2 := cellB t2
          go_wp2
          go_region_held3 (fun w' => Below wr.heap.size wr w')
            (first | exact grw (Below.drew (Below.refl _ _)) hb5 | exact (Below.refl _ _).drew)
            ((go_at_call 44; refine hcall.mono ?_; rintro e w5 ⟨rfl, hb5⟩))
          rename_i hS
          have HB5 : Hid (Below w1.heap.size w1 w5) := grw HBr.out hS
          clear hS hb5 k0 k1 k2 k3 v0 v1 v2 v3 k0' k1' k2' k3' v0' v1' v2' v3' t1 t2 hcall
          cases ba
          · have HN : Hid (¬ Look2 L L K X K' X' cl) := show ¬ _ from fun h => by
              have := (h.all c hlt).2
              rw [HBA.out] at this
              cases this
            go_wp2
            go_ret
            exact ⟨tells_no HN.out, grw HB1.out HB5.out⟩
          · have HQ' : Hid (∀ q, q < c + 1 → K q = K' q ∧ alike cl (X q) (X' q) = true) := show ∀ q, _ from fun q hq => by
              by_cases e : q = c
              · subst e; exact ⟨HK.out, HBA.out⟩
              · exact HQ.out q (by omega)
            go_wp2
            go_roundw
            case rel => exact ⟨c + 1, by omega, by go_num, HQ', HB5⟩
            case measure => simp [intOf]; omega
      · obtain rfl : c = L := by omega
        go_wp2
        go_ret
        exact ⟨tells_yes ⟨rfl, HQ.out⟩, HBw.out⟩
  · have HN : Hid (¬ Look2 L L' K X K' X' cl) := show ¬ _ from fun h => hl h.len
    have hne : (L != L') = true := by simpa using hl
    have hne' : ((L : Int) != (L' : Int)) = true := by simp; omega
    go_enter Tryz.func83, Tryz.ntmps83
    go_wp2
    rw [← hw1]
    go_ret
    exact ⟨tells_no HN.out, HB1.out⟩

end Go.Proofs.YtgflalfiopnmnaaGreatDoor

namespace Go.Proofs.YtgflalfiopnmnaaGreatDoor
open Go.RowKit Vl

def lkc (l : Lk) (i : Nat) : Value := if i = 0 then .int .i64 (l.was : Nat) else .int .u16 (l.parts (i - 1) : Nat)
theorem lkCells_map (l : Lk) : lkCells l = (List.range 101).map (lkc l) := by
  unfold lkCells
  rw [List.range_succ_eq_map]
  simp only [List.map_cons, List.map_map]
  rfl

def LkB (w : World) (b : Nat) (l : Lk) : Prop := w.heap[b]? = some (.cells (lkCells l).toArray 220 (0, 0))
theorem LkB.below {w w' : World} {b : Nat} {l : Lk} (h : LkB w b l) (hb : Below w.heap.size w w') : LkB w' b l := (hb.block b (blk_lt h)).trans h
theorem LkB.lt {w : World} {b : Nat} {l : Lk} (h : LkB w b l) : b < w.heap.size := blk_lt h
theorem lk_one (l : Lk) : ∀ v ∈ lkCells l, v.oneCell' = true := by
  intro v hv
  rw [lkCells_map] at hv
  obtain ⟨i, _, rfl⟩ := List.mem_map.1 hv
  unfold lkc
  split <;> rfl
theorem LkB.load {w : World} {b : Nat} {l : Lk} (h : LkB w b l) : (loadCells ⟨b, 0, none⟩ 101).run Tryz.prog w = .ok (lkCells l).toArray w := by
  have := run_loadCells_list (P := Tryz.prog) w ⟨b, 0, none⟩ (lkCells l) (fun j v hv => by
    have hadd : (⟨b, 0, none⟩ : Addr).add j = ⟨b, j, none⟩ := by unfold Addr.add; split <;> simp_all
    rw [hadd]
    unfold LkB at h
    simp [World.cell?, h]
    simpa using hv)
  rw [lkCells_len] at this
  exact this
theorem LkB.store {w : World} {b : Nat} {cur : Array Value} (l : Lk) (h : w.heap[b]? = some (.cells cur 220 (0, 0))) (hs : cur.size = 101) : ∃ w', (storeCells ⟨b, 0, none⟩ (lkCells l)).run Tryz.prog w = .ok () w' ∧ LkB w' b l ∧ Only (fun k => k = b) w w' ∧ w'.heap.size = w.heap.size := by
  have := run_storeCells_from (P := Tryz.prog) b 220 (lkCells l) 0 cur w h (by rw [lkCells_len, hs]) (lk_one l)
  simp only [List.take_zero, List.nil_append] at this
  refine ⟨_, this, ?_, ?_, ?_⟩
  · unfold LkB World.setRow
    simp [Array.getElem?_modify, h]
  · refine ⟨rfl, rfl, rfl, ?_, fun k _ hk => ?_⟩
    · simp [World.setRow]
    · unfold World.setRow
      simp [Array.getElem?_modify]
      intro e
      exact absurd e.symm hk
  · simp [World.setRow]
theorem LkB.cell {w : World} {b : Nat} {l : Lk} (h : LkB w b l) {i : Nat} (hi : i < 101) : w.cell? ⟨b, i, none⟩ = some (lkc l i) ∧ ∀ j, w.frozen? ⟨b, j, none⟩ = false := by
  unfold LkB at h
  refine ⟨?_, fun j => by simp [World.frozen?, h]⟩
  simp [World.cell?, h, lkCells_map, hi]
theorem LkB.set {w : World} {b : Nat} {l : Lk} (h : LkB w b l) (i v : Nat) (hi : i < 100) : LkB (w.setCell ⟨b, 1 + i, none⟩ (.int .u16 (v : Nat))) b ⟨l.was, fun j => if j = i then v else l.parts j⟩ := by
  unfold LkB at h ⊢
  simp only [World.setCell, Array.getElem?_modify, h, if_true, Option.map_some, Option.isSome_none, Bool.false_eq_true, if_false]
  congr 2
  apply Array.ext_getElem?
  intro j
  simp only [Array.getElem?_setIfInBounds, List.size_toArray, List.getElem?_toArray, lkCells_map, List.getElem?_map, List.length_map, List.length_range]
  by_cases hj : j < 101
  · rw [List.getElem?_range hj]
    by_cases e : 1 + i = j
    · subst e
      rw [if_pos rfl, if_pos (by omega)]
      simp [lkc]
    · rw [if_neg e]
      simp only [Option.map_some, lkc]
      by_cases e0 : j = 0
      · subst e0; simp
      · rw [if_neg e0, if_neg e0, if_neg (by omega)]
  · rw [List.getElem?_eq_none (by simp; omega)]
    rw [if_neg (by omega)]
    rfl

theorem LkB.range {w : World} {b : Nat} {l : Lk} (h : LkB w b l) : w.rangeAt b 0 (lkCells l) := fun j v hv => by
  unfold LkB at h
  rw [Nat.zero_add]
  simp [World.cell?, h]
  simpa using hv
theorem size_look (l : Lk) : (Tryz.prog.info? 220).map (·.size) = some (lkCells l).length := by
  rw [lkCells_len]
  kernel_rfl
theorem row_look : ∃ d, Tryz.prog.underlying 220 = some d ∧ d.isRow = true := ⟨_, Tryz.underlying220, rfl⟩
theorem zero_look : Tryz.zeroCells220 = (lkCells ⟨0, fun _ => 0⟩).toArray := by kernel_rfl
theorem zero_set (u : Nat) : Tryz.zeroCells220.toList.set 0 (.int .i64 (u : Nat)) = lkCells ⟨u, fun _ => 0⟩ := by kernel_rfl
theorem LkB.new (w : World) : LkB (w.alloc (.cells Tryz.zeroCells220 220)) w.heap.size ⟨0, fun _ => 0⟩ := by
  unfold LkB
  rw [zero_look]
  exact heap_alloc_new _ _

def lkOf (u : Nat) (cl ld : Nat → Nat) (c : Nat) : Lk := ⟨u, fun i => if i < c then cl (ld i) else 0⟩

set_option maxHeartbeats 2000000 in
set_option maxRecDepth 100000 in
theorem lookOf_any (u L C n cp : Nat) (la : Option Addr) (lb g : Nat) (cl ld : Nat → Nat) (w : World) (hL : L ≤ 100) (HLd : Hid (∀ i, i < L → ld i < n)) (HCl : Hid (∀ i, i < n → cl i < 1000))
    (hla : 0 < L → la = some ⟨lb, 0, none⟩) (HL : Hid (ClsAt w lb L ld)) (HC : Hid (ClsAt w g n cl)) :
    Calls Tryz.prog 120 #[.int .i64 u, .slice la L C, .slice (some ⟨g, 0, none⟩) n cp] w fun e w' => e = .returned (lkV (lkOf u cl ld L)) ∧ Below w.heap.size w w' := by
  have hz := zero_set u
  have H1 : Hid (LkB ((w.alloc (.cells Tryz.zeroCells220 220)).alloc (.cells Tryz.zeroCells220 220)) (w.heap.size + 1) ⟨0, fun _ => 0⟩) := by
    have := LkB.new (w.alloc (.cells Tryz.zeroCells220 220))
    show LkB _ _ _
    simpa using this
  obtain ⟨w1, hst, hB1, hO1, hs1⟩ := LkB.store ⟨u, fun _ => 0⟩ H1.out (by simp [lkCells_len])
  have hbe : Below w.heap.size w ((w.alloc (.cells Tryz.zeroCells220 220)).alloc (.cells Tryz.zeroCells220 220)) := (alloc2 w _ _).2.2.2
  have HB1 : Hid (LkB w1 (w.heap.size + 1) ⟨u, fun _ => 0⟩) := hB1
  have HR1 : Hid (LkB w1 w.heap.size ⟨0, fun _ => 0⟩) := by
    have := (alloc2 w (.cells Tryz.zeroCells220 220) (.cells Tryz.zeroCells220 220)).1
    rw [zero_look] at this
    exact (hO1.block _ (by simp; omega) (by omega)).trans (by rw [zero_look]; exact this)
  have HW1 : Hid (Below w.heap.size w w1) := hbe.trans (hO1.toBelow (fun k hk => by omega) hbe.size)
  clear hB1 hO1 hs1 hbe H1
  go_enter Tryz.func120, Tryz.ntmps120
  go_wp2
  clear hz hst
  go_loopw [14] (fun ii wr => ∃ c : Nat, c ≤ L ∧ ii = .int .i64 c ∧ Hid (LkB wr (w.heap.size + 1) (lkOf u cl ld c)) ∧ Hid (Only (fun k => k = w.heap.size + 1) w1 wr)) (fun ii _ => L - (intOf ii).toNat)
  case atStart =>
    refine ⟨0, Nat.zero_le _, rfl, ?_, Only.refl _ _⟩
    have e : lkOf u cl ld 0 = ⟨u, fun _ => 0⟩ := by unfold lkOf; simp
    rw [e]
    exact HB1
  case round =>
    obtain ⟨c, hc, rfl, HBc, HOc⟩ := hrel
    have HWr : Hid (Below w.heap.size w wr) := HW1.out.trans (HOc.out.toBelow (fun k hk => by omega) HW1.out.size)
    by_cases hlt : c < L
    · obtain rfl := hla (by omega)
      have l0 := HL.out.below HWr.out c hlt
      have hd := HLd.out c hlt
      obtain ⟨d, HD⟩ : ∃ d, Hid (ld c = d) := ⟨_, rfl⟩
      rw [HD.out] at l0 hd
      have c0 := HC.out.below HWr.out d hd
      have hcl := HCl.out d hd
      obtain ⟨x, HX⟩ : ∃ x, Hid (cl d = x) := ⟨_, rfl⟩
      rw [HX.out] at c0 hcl
      have hwx : IntKind.u16.wrap (x : Int) = (x : Int) := by unfold IntKind.wrap; simp [IntKind.bits, IntKind.signed]; omega
      have hbc : (0 : Int) ≤ (c : Int) ∧ (c : Int) < (L : Int) := by omega
      have hbc' : (0 : Int) ≤ (c : Int) ∧ (c : Int) < 100 := by omega
      have hbd : (0 : Int) ≤ (d : Int) ∧ (d : Int) < (n : Int) := by omega
      obtain ⟨p0, pz⟩ := HBc.out.cell (i := 1 + c) (by omega)
      have HB2 : Hid (LkB (wr.setCell ⟨w.heap.size + 1, 1 + c, none⟩ (.int .u16 (x : Nat))) (w.heap.size + 1) (lkOf u cl ld (c + 1))) := by
        have := HBc.out.set c x (by omega)
        have e : (⟨(lkOf u cl ld c).was, fun j => if j = c then x else (lkOf u cl ld c).parts j⟩ : Lk) = lkOf u cl ld (c + 1) := by
          unfold lkOf
          congr 1
          funext j
          simp only
          by_cases e : j = c
          · rw [if_pos e, if_pos (by omega), e, HD.out, HX.out]
          · rw [if_neg e]
            by_cases h' : j < c
            · rw [if_pos h', if_pos (by omega)]
            · rw [if_neg h', if_neg (by omega)]
        rw [e] at this
        exact this
      have HO2 : Hid (Only (fun k => k = w.heap.size + 1) w1 (wr.setCell ⟨w.heap.size + 1, 1 + c, none⟩ (.int .u16 (x : Nat)))) := HOc.out.set rfl _
      clear HBc HOc
      go_wp2
      go_roundw
      case rel => exact ⟨c + 1, by omega, by go_num, HB2, HO2⟩
      case measure => simp [intOf]; omega
    · obtain rfl : c = L := by omega
      have hld := HBc.out.load
      have HRc : Hid (LkB wr w.heap.size ⟨0, fun _ => 0⟩) := (HOc.out.block _ HR1.out.lt (by omega)).trans HR1.out
      obtain ⟨w2, hst, hB2, hO2, hs2⟩ := LkB.store (lkOf u cl ld c) HRc.out (by simp [lkCells_len])
      have HB2 : Hid (LkB w2 w.heap.size (lkOf u cl ld c)) := hB2
      have HW2 : Hid (Below w.heap.size w w2) := HWr.out.trans (hO2.toBelow (fun k hk => by omega) HWr.out.size)
      clear hB2 hO2 hs2
      obtain ⟨lk, hlk⟩ : ∃ lk, lkOf u cl ld c = lk := ⟨_, rfl⟩
      rw [hlk] at hld hst HB2
      have HLK : Hid (lkOf u cl ld c = lk) := hlk
      clear hlk hld
      have HRG : Hid (wr.rangeAt (w.heap.size + 1) 0 (lkCells lk)) := by rw [← HLK.out]; exact HBc.out.range
      obtain ⟨d, hd, hr⟩ := row_look
      go_wp2
      refine wp_load_mid 220 (.tmp 7) rfl (w.heap.size + 1) 0 rfl (lkCells lk) d HRG.out hd hr (size_look lk) ?_
      clear hd hr
      go_wp2
      refine bodyPost_ret (v := lkV lk) (results_cell_row Tryz.results120 _ _ w.heap.size 220 _ (0, 0) _ rfl HB2.out Tryz.underlying220 rfl (by rw [List.size_toArray]; exact size_look lk)) rfl ⟨by rw [HLK.out], HW2.out⟩

end Go.Proofs.YtgflalfiopnmnaaGreatDoor
