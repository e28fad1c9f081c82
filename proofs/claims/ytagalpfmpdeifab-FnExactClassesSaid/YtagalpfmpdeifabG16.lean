import Derived.Test.YtagalpfmpdeifabG15
import Derived.ChangeKeysEq
namespace Go.Proofs.Ytagalpfmpdeifab
open Go.RowKit Vl Go.Sort Go.Shelf

/-- A key. -/
abbrev KV := { v : V // isK v = true }
instance : Inhabited KV := ⟨⟨⟨2, 0, ⟨#[]⟩, 0⟩, by decide +kernel⟩⟩
def encK (x : KV) : List Value := [.int .i64 x.1.k, .int .i64 x.1.n, .string x.1.s, .int .i64 x.1.a]

theorem ltK (x y : KV) : ltOf (fun x y : KV => ko x.1 y.1) x y = less x.1 y.1 := by
  unfold ltOf ko
  simp only [x.2, y.2, Bool.and_self, if_true]
  cases h : less x.1 y.1
  · cases less y.1 x.1 <;> simp
  · simp
theorem less_irrefl (a : V) : less a a = false := by
  cases h : less a a
  · rfl
  · have := less_asymm h; rw [h] at this; cases this
theorem swoK : SWO (ltOf fun x y : KV => ko x.1 y.1) where
  irrefl x := by rw [ltK]; exact less_irrefl _
  trans x y z h1 h2 := by
    rw [ltK] at *
    cases h : less x.1 z.1
    · have := le_trans (less_asymm h2) h
      rw [this] at h1
      cases h1
    · rfl
  ntrans x y z h1 h2 := by
    rw [ltK] at *
    exact le_trans h2 h1

theorem perm_map {α β : Type} {f : α → β} {l k : List β} (h : l.Perm k) : ∀ ms : List α, k = ms.map f → ∃ ls : List α, ls.Perm ms ∧ l = ls.map f := by
  induction h with
  | nil => intro ms e; cases ms with
    | nil => exact ⟨[], List.Perm.refl _, rfl⟩
    | cons => simp at e
  | cons x _ ih => intro ms e; cases ms with
    | nil => simp at e
    | cons m ms =>
      simp only [List.map_cons, List.cons.injEq] at e
      obtain ⟨ls, h1, h2⟩ := ih ms e.2
      exact ⟨m :: ls, h1.cons m, by rw [h2, e.1]; rfl⟩
  | swap x y l => intro ms e; match ms, e with
    | [], e => simp at e
    | [_], e => simp at e
    | a :: b :: ms, e =>
      simp only [List.map_cons, List.cons.injEq] at e
      obtain ⟨e1, e2, e3⟩ := e
      exact ⟨b :: a :: ms, List.Perm.swap _ _ _, by rw [e1, e2, e3]; rfl⟩
  | trans _ _ ih1 ih2 => intro ms e
                         obtain ⟨ls, h1, h2⟩ := ih2 ms e
                         obtain ⟨ls', h3, h4⟩ := ih1 ls h2
                         exact ⟨ls', h3.trans h1, h4⟩

theorem keyCells_len (K : Nat → V) (L : Nat) : (keyCells (keys K L)).length = L * 4 := by
  induction L with
  | zero => rfl
  | succ L ih => rw [keys_succ]; simp only [keyCells, List.flatMap_append, List.length_append] at ih ⊢; rw [ih]; simp; omega
theorem keyCells_at (K : Nat → V) : ∀ (L j i : Nat), j < L → i < 4 → (keyCells (keys K L))[j * 4 + i]? = [Value.int .i64 (K j).k, .int .i64 (K j).n, .string (K j).s, .int .i64 (K j).a][i]? := by
  intro L
  induction L with
  | zero => intro j i hj; omega
  | succ L ih =>
    intro j i hj hi
    rw [keys_succ]
    have e : keyCells (keys K L ++ [K L]) = keyCells (keys K L) ++ [.int .i64 (K L).k, .int .i64 (K L).n, .string (K L).s, .int .i64 (K L).a] := by simp [keyCells]
    rw [e]
    by_cases e : j = L
    · subst e
      rw [List.getElem?_append_right (by rw [keyCells_len]; omega), keyCells_len, show j * 4 + i - j * 4 = i by omega]
    · rw [List.getElem?_append_left (by rw [keyCells_len]; omega)]
      exact ih j i (by omega) hi

/-- The keys of a row, as keys. -/
noncomputable def kvOf (K : Nat → V) (c : Nat) : KV := if h : isK (K c) = true then ⟨K c, h⟩ else default
theorem kvOf_val {K : Nat → V} {c : Nat} (h : isK (K c) = true) : (kvOf K c).1 = K c := by unfold kvOf; rw [dif_pos h]
noncomputable def kvs (K : Nat → V) (L : Nat) : Array KV := ((List.range L).map (kvOf K)).toArray
theorem kvs_size (K : Nat → V) (L : Nat) : (kvs K L).size = L := by simp [kvs]
theorem kvs_at (K : Nat → V) (L c : Nat) (h : c < L) : (kvs K L)[c]! = kvOf K c := by
  rw [getElem!_pos _ c (by rw [kvs_size]; exact h)]
  simp [kvs]

theorem flat_at {d : Array KV} {j i : Nat} (hj : j < d.size) (hi : i < 4) : (flatK encK 4 d)[j * 4 + i]! = (encK d[j]!)[i]! := by
  rw [get_flatK _ _ _ _ (by omega), show (j * 4 + i) / 4 = j by omega, show (j * 4 + i) % 4 = i by omega]

theorem encK_at (x : KV) {i : Nat} (hi : i < 4) : [Value.int .i64 x.1.k, .int .i64 x.1.n, .string x.1.s, .int .i64 x.1.a][i]? = some (encK x)[i]! := by
  rcases (show i = 0 ∨ i = 1 ∨ i = 2 ∨ i = 3 by omega) with rfl | rfl | rfl | rfl <;> rfl

theorem holds_keys {w : World} {base L g cap : Nat} {K : Nat → V} (hK : ∀ c, c < L → isK (K c) = true) (h : w.ownsRow base 29 4 (.slice (some ⟨g, 0, none⟩) L cap) L (keyCells (keys K L))) : HoldsK encK 4 w g 0 (kvs K L) := by
  intro t ht
  rw [size_flatK, kvs_size] at ht
  obtain ⟨j, i, hi, rfl⟩ : ∃ j i, i < 4 ∧ t = j * 4 + i := ⟨t / 4, t % 4, by omega, by omega⟩
  have hj : j < L := by omega
  have e := keyCells_at K L j i hj hi
  have hv := kvOf_val (hK j hj)
  rw [← hv, encK_at _ hi] at e
  obtain ⟨g', cap', hs, hc⟩ := owns_cell h e
  cases hs
  rw [Nat.zero_add]
  refine ⟨?_, ?_⟩
  · rw [hc, flat_at (by rw [kvs_size]; exact hj) hi, kvs_at K L j hj]
    rfl
  · rcases h.2 with ⟨hv, _⟩ | ⟨g', cap', cur, hv, _, hh, _⟩
    · cases hv
    · cases hv
      simp [World.frozen?, hh]

/-- What the sort leaves of a row of keys. -/
theorem sorted_row {w : World} {base L g cap n : Nat} {K : Nat → V} {d' : Array KV} {os : Array Obj} (hK : ∀ c, c < L → isK (K c) = true) (h : w.ownsRow base 29 4 (.slice (some ⟨g, 0, none⟩) L cap) L (keyCells (keys K L)))
    (hp : PermIn 0 L (kvs K L) d') (hs : SortedIn (ltOf fun x y : KV => ko x.1 y.1) 0 L d') :
    ∃ ls, SortI K L ls ∧ (sortWorldK encK 4 w g 0 n d' os).ownsRow base 29 4 (.slice (some ⟨g, 0, none⟩) L cap) L (keyCells (keys (byI K ls) L)) ∧ Only (fun k => k = g) w (sortWorldK encK 4 w g 0 n d' os) := by
  have hsz : d'.size = L := by rw [hp.1, kvs_size]
  have hperm : d'.toList.Perm ((List.range L).map (kvOf K)) := by
    have := hp.2.2
    rw [show d'.extract 0 L = d' by apply Array.ext_getElem?; intro i; rw [Array.getElem?_extract]; by_cases hi : i < L <;> simp [hi, hsz]] at this
    rw [show (kvs K L).extract 0 L = kvs K L by apply Array.ext_getElem?; intro i; rw [Array.getElem?_extract]; by_cases hi : i < L <;> simp [hi, kvs_size]] at this
    simpa [kvs] using this
  obtain ⟨ls, hls, hd⟩ := perm_map hperm (List.range L) rfl
  have hlen : ls.length = L := by rw [hls.length_eq]; simp
  have hat : ∀ i, i < L → d'[i]! = kvOf K (ls.getD i 0) := fun i hi => by
    rw [getElem!_pos _ i (by omega), ← Array.getElem_toList]
    simp only [hd]
    rw [List.getElem_map, List.getD_eq_getElem?_getD, List.getElem?_eq_getElem (by omega)]
    rfl
  have hlt : ∀ i, i < L → ls.getD i 0 < L := fun i hi => by
    rw [List.getD_eq_getElem?_getD, List.getElem?_eq_getElem (by omega)]
    exact List.mem_range.1 (hls.subset (List.getElem_mem _))
  refine ⟨ls, ⟨hls, ?_⟩, ?_, ?_⟩
  · unfold SortW
    rw [List.pairwise_iff_getElem]
    intro i j hi hj hij
    have := hs i j (Nat.zero_le _) hij (by omega)
    rw [ltK, hat i (by omega), hat j (by omega)] at this
    rw [kvOf_val (hK _ (hlt j (by omega))), kvOf_val (hK _ (hlt i (by omega)))] at this
    simpa [List.getD_eq_getElem?_getD, hi, hj] using this
  · refine ⟨by rw [keyCells_len], Or.inr ?_⟩
    rcases h.2 with ⟨hv, _⟩ | ⟨g', cap', cur, hv, hge, hh, hl, hm, hs', ht⟩
    · cases hv
    · cases hv
      have hgl := blk_lt hh
      refine ⟨g, cap, putCells id 0 (flatK encK 4 d') cur, rfl, hge, ?_, hl, hm, by simp [putCells, hs'], ?_⟩
      · unfold sortWorldK grow putRowK putRow mapBlock
        simp only
        rw [Array.getElem?_append_left (by simp [Sort.ahead]; exact hgl)]
        simp [Array.getElem?_modify, Sort.ahead, hh, onCells]
      · apply List.ext_getElem?
        intro t
        by_cases ht' : t < L * 4
        · obtain ⟨j, i, hi, rfl⟩ : ∃ j i, i < 4 ∧ t = j * 4 + i := ⟨t / 4, t % 4, by omega, by omega⟩
          have hj : j < L := by omega
          have e := keyCells_at (byI K ls) L j i hj hi
          unfold byI at e
          rw [← kvOf_val (hK _ (hlt j hj)), encK_at _ hi] at e
          rw [List.getElem?_take, if_pos ht']
          have hcl : j * 4 + i < cur.size := by rw [hs']; have : L * 4 ≤ cap * 4 := Nat.mul_le_mul_right 4 hl; omega
          have e2 : (putCells id 0 (flatK encK 4 d') cur).toList[j * 4 + i]? = some (flatK encK 4 d')[j * 4 + i]! := by
            simp [putCells, hcl, hsz]
            intro hx
            omega
          rw [e2, flat_at (by omega) hi, hat j hj]
          exact e.symm
        · rw [List.getElem?_eq_none (by simp; omega), List.getElem?_eq_none (by rw [keyCells_len]; omega)]
  · refine ⟨rfl, rfl, rfl, ?_, fun k hk hne => ?_⟩
    · unfold sortWorldK grow putRowK putRow mapBlock
      simp [Sort.ahead]
    · unfold sortWorldK grow putRowK putRow mapBlock
      simp only
      rw [Array.getElem?_append_left (by simp [Sort.ahead]; exact hk), Array.getElem?_modify, if_neg (fun e => hne e.symm)]
      rfl

end Go.Proofs.Ytagalpfmpdeifab

namespace Go.Proofs.Ytagalpfmpdeifab
open Go.RowKit Vl Go.Sort Go.Shelf

set_option maxHeartbeats 1000000 in
/-- The sort of a row of keys. -/
theorem sort_some (base L g cap : Nat) (K : Nat → V) (w : World) (hL : L ≤ 1000) (hK : ∀ c, c < L → isK (K c) = true) (hO : w.ownsRow base 29 4 (.slice (some ⟨g, 0, none⟩) L cap) L (keyCells (keys K L))) :
    Calls Try.prog 90 #[.slice (some ⟨g, 0, none⟩) L cap, .func (.func 19) #[] #[]] w fun e w' => e = .returned (.tuple #[]) ∧ ∃ ls, SortI K L ls ∧ w'.ownsRow base 29 4 (.slice (some ⟨g, 0, none⟩) L cap) L (keyCells (keys (byI K ls) L)) ∧ Only (fun k => k = g) w w' := by
  have eg : ∀ args w, (callFunc 19 args).run Try.prog w = .ok (.enter 19 args) w := enters_of Try.func19 (by kernel_rfl) rfl
  have hgl : g < w.heap.size := by
    obtain ⟨_, _, _, h⟩ := owns_form hO
    exact (h g rfl).2
  have hcon := AnyQ.slices_SortFunc Try.sortVal 4 (fun w => by kernel_rfl) (fun w => by kernel_rfl) encK (fun _ => rfl) (fun x v hv => by simp [encK] at hv; rcases hv with rfl | rfl | rfl | rfl <;> rfl) (fun x y => ko x.1 y.1) swoK 19 #[] g 0 cap (kvs K L) w eg (fun m os dk _ x y => Dr.implKo_grows x.1 y.1 _) (holds_keys hK hO) hgl (by rw [kvs_size]; omega)
  rw [kvs_size] at hcon
  refine Calls.mono hcon ?_
  rintro e w' ⟨he, d', n, os, hp, hs, rfl⟩
  exact ⟨he, sorted_row hK hO hp hs⟩

theorem insert_none (f : Value) (w : World) : Calls Try.prog 117 #[.slice none 0 0, .int .i64 0, .int .i64 0, f] w fun e w' => e = .returned (.tuple #[]) ∧ w' = w := by
  go_enter Try.func117, Try.ntmps117
  go_wp2
  go_loopw [8] (fun k wr => k = .int .i64 1 ∧ wr = w) (fun _ _ => 0)
  case atStart => exact ⟨rfl, rfl⟩
  case round =>
    obtain ⟨rfl, rfl⟩ := hrel
    go_wp2
    go_end0
    exact ⟨rfl, rfl⟩

set_option maxHeartbeats 1000000 in
set_option maxRecDepth 100000 in
theorem pdq_none (f : Value) (l : Int) (w : World) : Calls Try.prog 104 #[.slice none 0 0, .int .i64 0, .int .i64 0, .int .i64 l, f] w fun e w' => e = .returned (.tuple #[]) ∧ w' = w := by
  go_enter Try.func104, Try.ntmps104
  go_wp2
  go_loopw [1, 2] (fun a b wr => a = .int .i64 0 ∧ b = .int .i64 0 ∧ wr = w) (fun _ _ _ => 0)
  case atStart => exact ⟨rfl, rfl, rfl⟩
  case round =>
    obtain ⟨rfl, rfl, rfl⟩ := hrel
    go_wp2_with fail
    refine (insert_none f wr).mono ?_
    rintro e w' ⟨rfl, rfl⟩
    go_wp2
    refine bodyPost_ret (results_none rfl _ _ _) rfl ?_
    exact ⟨rfl, rfl⟩

theorem sort_none (f : Value) (w : World) : Calls Try.prog 90 #[.slice none 0 0, f] w fun e w' => e = .returned (.tuple #[]) ∧ w' = w := by
  have hl : Calls Try.prog 105 #[.int .u64 0] w fun e w' => e = .returned (.int .i64 (Lib.bitLen (0 : Int).toNat : Nat)) ∧ w' = w := Any.bits_Len (SlLaysF0.n15.bits (P := Try.prog) (ρ := Try.sortVal_ren) { Try.sortVal with }) 0 w (by omega) (by omega)
  have wr0 : IntKind.u64.wrap (0 : Int) = 0 := by simp [IntKind.wrap, IntKind.bits, IntKind.signed]
  obtain ⟨l, hl'⟩ : ∃ l : Int, ((Lib.bitLen (0 : Int).toNat : Nat) : Int) = l := ⟨_, rfl⟩
  rw [hl'] at hl
  clear hl'
  go_enter Try.func90, Try.ntmps90
  go_wp2_with fail
  refine hl.mono ?_
  rintro e w' ⟨rfl, rfl⟩
  go_wp2_with fail
  refine (pdq_none f l w').mono ?_
  rintro e w2 ⟨rfl, rfl⟩
  go_wp2
  go_end0
  exact ⟨rfl, rfl⟩

end Go.Proofs.Ytagalpfmpdeifab

namespace Go.Proofs.Ytagalpfmpdeifab
open Go.RowKit Vl

/-- A value of a graph whose tables lie behind N others. -/
def sh (N : Nat) (v : V) : V := if v.k = 4 then ⟨v.k, v.n, v.s, v.a + N⟩ else v
theorem sh_zero (v : V) : sh 0 v = v := by
  unfold sh
  split
  · cases v; simp
  · rfl
theorem sh_k (N : Nat) (v : V) : (sh N v).k = v.k := by unfold sh; split <;> rfl
theorem sh_isV {N n : Nat} {v : V} (h : isV n v = true) : isV (N + n) (sh N v) = true := by
  by_cases h4 : v.k = 4
  · unfold sh
    rw [if_pos h4]
    unfold isV at h ⊢
    rw [if_neg (by omega), if_neg (by omega), if_neg (by omega), if_neg (by omega), if_pos h4] at h
    rw [if_neg (by simp only; omega), if_neg (by simp only; omega), if_neg (by simp only; omega), if_neg (by simp only; omega), if_pos (by simp only; omega)]
    simp only [Bool.and_eq_true, decide_eq_true_eq] at h ⊢
    refine ⟨h.1, h.2.1, ?_, ?_⟩
    · have := h.2.2.1; omega
    · have := h.2.2.2; omega
  · unfold sh
    rw [if_neg h4]
    unfold isV at h ⊢
    rw [if_neg h4] at h ⊢
    exact h
theorem isV_more {N n : Nat} {v : V} (h : isV N v = true) : isV (N + n) v = true := by
  by_cases h4 : v.k = 4
  · unfold isV at h ⊢
    rw [if_neg (by omega), if_neg (by omega), if_neg (by omega), if_neg (by omega), if_pos h4] at h ⊢
    simp only [Bool.and_eq_true, decide_eq_true_eq] at h ⊢
    refine ⟨h.1, h.2.1, h.2.2.1, ?_⟩
    have := h.2.2.2; omega
  · unfold isV at h ⊢
    rw [if_neg h4] at h ⊢
    exact h
theorem ifv_congr {T T' : Nat → Nat} {n : Nat} {v : V} (hv : isV n v = true) (h : v.k = 4 → T v.a.toNat = T' v.a.toNat) : ifv T v = ifv T' v := by
  by_cases h4 : v.k = 4
  · rw [ifv_tab h4, ifv_tab h4, h h4]
  · unfold ifv
    split
    · rfl
    · split
      · rfl
      · split
        · rfl
        · split
          · rfl
          · rename_i k0 k1 k2 k3
            simp [isV, k0, k1, k2, k3, h4] at hv
theorem ifv_sh {T T' : Nat → Nat} {n N : Nat} {v : V} (hv : isV n v = true) (h : ∀ j, j < n → T (N + j) = T' j) : ifv T' v = ifv T (sh N v) := by
  by_cases h4 : v.k = 4
  · obtain ⟨a0, a1⟩ := isV_tab hv h4
    rw [ifv_tab h4, ifv_tab ((sh_k N v).trans h4)]
    have e : (sh N v).a.toNat = N + v.a.toNat := by
      unfold sh
      rw [if_pos h4]
      simp only
      omega
    rw [e, h v.a.toNat (by omega)]
  · have e : sh N v = v := by unfold sh; rw [if_neg h4]
    rw [e]
    exact ifv_congr hv (fun h => absurd h h4)

/-- One row behind another. -/
def jn {α : Type} (N : Nat) (f g : Nat → α) (j : Nat) : α := if j < N then f j else g (j - N)
theorem jn_lt {α : Type} {N : Nat} {f g : Nat → α} {j : Nat} (h : j < N) : jn N f g j = f j := by unfold jn; rw [if_pos h]
theorem jn_ge {α : Type} {N : Nat} {f g : Nat → α} {j : Nat} (h : ¬ j < N) : jn N f g j = g (j - N) := by unfold jn; rw [if_neg h]
theorem jn_add {α : Type} {N : Nat} {f g : Nat → α} (j : Nat) : jn N f g (N + j) = g j := by rw [jn_ge (by omega)]; congr 1; omega

theorem Good.join {N n : Nat} {L L' : Nat → Nat} {X X' : Nat → Nat → V} (h : Good N L X) (h' : Good n L' X') : Good (N + n) (jn N L L') (jn N X (fun j c => sh N (X' j c))) := by
  intro r hr c hc
  by_cases e : r < N
  · rw [jn_lt e] at hc ⊢
    exact isV_more (h r e c hc)
  · rw [jn_ge e] at hc ⊢
    exact sh_isV (h' (r - N) (by omega) c hc)

/-- Tables, and those of the next graph behind them. -/
theorem Tbs.join {w : World} {N n : Nat} {T M T' M' : Nat → Nat} {at_ at' : Nat → Int} {L L' : Nat → Nat} {K X K' X' : Nat → Nat → V} (h : Tbs w N T M at_ L K X) (h' : Tbs w n T' M' at' L' K' X') (hg : Good N L X) (hg' : Good n L' X') (hne : ∀ i j, i < N → j < n → T i ≠ T' j) :
    Tbs w (N + n) (jn N T T') (jn N M M') (jn N at_ at') (jn N L L') (jn N K K') (jn N X (fun j c => sh N (X' j c))) := by
  refine ⟨fun j hj => ?_, fun j hj => ?_, fun i j hi hj e => ?_⟩
  · by_cases e : j < N
    · simp only [jn_lt e]
      exact h.tab j e
    · simp only [jn_ge e]
      exact h'.tab (j - N) (by omega)
  · by_cases e : j < N
    · simp only [jn_lt e]
      obtain ⟨l, h1, h2⟩ := h.map j e
      refine ⟨l, h1, fun c hc => (h2 c hc).trans (congrArg some (ifv_congr (hg j e c hc) (fun h4 => ?_)))⟩
      obtain ⟨a0, a1⟩ := isV_tab (hg j e c hc) h4
      rw [jn_lt (by omega)]
    · simp only [jn_ge e]
      obtain ⟨l, h1, h2⟩ := h'.map (j - N) (by omega)
      exact ⟨l, h1, fun c hc => (h2 c hc).trans (congrArg some (ifv_sh (hg' (j - N) (by omega) c hc) (fun q _ => jn_add q)))⟩
  · by_cases e1 : i < N
    · by_cases e2 : j < N
      · rw [jn_lt e1, jn_lt e2] at e
        exact h.inj i j e1 e2 e
      · rw [jn_lt e1, jn_ge e2] at e
        exact absurd e (hne i (j - N) e1 (by omega))
    · by_cases e2 : j < N
      · rw [jn_ge e1, jn_lt e2] at e
        exact absurd e.symm (hne j (i - N) e2 (by omega))
      · rw [jn_ge e1, jn_ge e2] at e
        have := h'.inj (i - N) (j - N) (by omega) (by omega) e
        omega

theorem Ap.join {w : World} {base base' N n : Nat} {T M T' M' : Nat → Nat} (h : Ap w base N T M) (h' : Ap w base' n T' M') (hb : base ≤ base') (hs : ∀ j a o g, j < N → TabB w (T j) (M j) a o → o.ownBlock = some g → g < base') : Ap w base (N + n) (jn N T T') (jn N M M') := by
  refine ⟨fun j hj => ?_, fun j a o g hj ht hg => ?_, fun i j a o a' o' g hi hj h1 h2 g1 g2 => ?_⟩
  · by_cases e : j < N
    · rw [jn_lt e]; exact h.lo j e
    · rw [jn_ge e]; exact Nat.le_trans hb (h'.lo (j - N) (by omega))
  · by_cases e : j < N
    · rw [jn_lt e, jn_lt e] at ht; exact h.own j a o g e ht hg
    · rw [jn_ge e, jn_ge e] at ht; exact Nat.le_trans hb (h'.own (j - N) a o g (by omega) ht hg)
  · by_cases e1 : i < N
    · rw [jn_lt e1, jn_lt e1] at h1
      by_cases e2 : j < N
      · rw [jn_lt e2, jn_lt e2] at h2
        exact h.one i j a o a' o' g e1 e2 h1 h2 g1 g2
      · rw [jn_ge e2, jn_ge e2] at h2
        have := hs i a o g e1 h1 g1
        have := h'.own (j - N) a' o' g (by omega) h2 g2
        omega
    · rw [jn_ge e1, jn_ge e1] at h1
      by_cases e2 : j < N
      · rw [jn_lt e2, jn_lt e2] at h2
        have := hs j a' o' g e2 h2 g2
        have := h'.own (i - N) a o g (by omega) h1 g1
        omega
      · rw [jn_ge e2, jn_ge e2] at h2
        have := h'.one (i - N) (j - N) a o a' o' g (by omega) (by omega) h1 h2 g1 g2
        omega

/-- One place changed. -/
def upd {α : Type} (f : Nat → α) (r : Nat) (x : α) (j : Nat) : α := if j = r then x else f j
theorem upd_same {α : Type} (f : Nat → α) (r : Nat) (x : α) : upd f r x r = x := by unfold upd; rw [if_pos rfl]
theorem upd_ne {α : Type} (f : Nat → α) {r j : Nat} (x : α) (h : j ≠ r) : upd f r x j = f j := by unfold upd; rw [if_neg h]

/-- A block of keys is no table. -/
theorem Tbs.keyNe {w : World} {n : Nat} {T M : Nat → Nat} {at_ : Nat → Int} {L : Nat → Nat} {K X : Nat → Nat → V} (h : Tbs w n T M at_ L K X) {r : Nat} (hr : r < n) {a : Int} {o : Value} {g : Nat} (ht : TabB w (T r) (M r) a o) (hg : o.ownBlock = some g) : (∀ j, j < n → T j ≠ g ∧ M j ≠ g) ∧ ∃ cur, w.heap[g]? = some (.cells cur 29 (0, 0)) := by
  obtain ⟨ord, h1, h2⟩ := h.tab r hr
  have e := h1.ord ht
  subst e
  obtain ⟨_, cur, hc⟩ := owns_type h2 hg
  refine ⟨fun j hj => ⟨fun e => ?_, fun e => ?_⟩, cur, hc⟩
  · obtain ⟨ord', k1, _⟩ := h.tab j hj
    unfold TabB at k1
    rw [e, hc] at k1
    cases k1
  · obtain ⟨l, k1, _⟩ := h.map j hj
    obtain ⟨es, clk, hb, _⟩ := k1
    rw [e, hc] at hb
    cases hb

/-- An order is sorted. -/
theorem Tbs.sorted {w w' : World} {base n : Nat} {T M : Nat → Nat} {at_ : Nat → Int} {L : Nat → Nat} {K X : Nat → Nat → V} (h : Tbs w n T M at_ L K X) (hp : Ap w base n T M) {r : Nat} (hr : r < n) {a : Int} {o : Value} {g : Nat} (ht : TabB w (T r) (M r) a o) (hg : o.ownBlock = some g) {ls : List Nat} (hS : SortI (K r) (L r) ls) (hO : w'.ownsRow 0 29 4 o (L r) (keyCells (keys (byI (K r) ls) (L r)))) (ho : Only (fun k => k = g) w w') :
    Tbs w' n T M at_ L (upd K r (byI (K r) ls)) (upd X r (byI (X r) ls)) ∧ Ap w' base n T M := by
  obtain ⟨hne, _⟩ := h.keyNe hr ht hg
  have hT : ∀ j, j < n → w'.heap[T j]? = w.heap[T j]? := fun j hj => ho.block _ (h.lt hj) (hne j hj).1
  refine ⟨⟨fun j hj => ?_, fun j hj => ?_, h.inj⟩, hp.same hT⟩
  · obtain ⟨ord, h1, h2⟩ := h.tab j hj
    by_cases e : j = r
    · subst e
      have e := h1.ord ht
      subst e
      rw [upd_same]
      exact ⟨ord, (hT j hj).trans h1, hO⟩
    · rw [upd_ne K _ e]
      exact ⟨ord, (hT j hj).trans h1, ho.ownsB h2 (fun g' hg' e' => e (by subst e'; exact hp.one j r _ _ _ _ _ hj hr h1 ht hg' hg))⟩
  · obtain ⟨l, h1, h2⟩ := h.map j hj
    refine ⟨l, h1.same (ho.block _ h1.lt (hne j hj).2), fun c hc => ?_⟩
    by_cases e : j = r
    · subst e
      rw [upd_same, upd_same]
      exact h2 _ (hS.lt hc)
    · rw [upd_ne K _ e, upd_ne X _ e]
      exact h2 c hc

theorem Ap.setAt {w : World} {base n : Nat} {T M : Nat → Nat} {at_ : Nat → Int} {L : Nat → Nat} {K X : Nat → Nat → V} (hp : Ap w base n T M) (h : Tbs w n T M at_ L K X) {r : Nat} (hr : r < n) (i : Int) : Ap (w.setCell ⟨T r, 0, none⟩ (.int .i64 i)) base n T M := by
  have old : ∀ j a o, j < n → TabB (w.setCell ⟨T r, 0, none⟩ (.int .i64 i)) (T j) (M j) a o → TabB w (T j) (M j) (at_ j) o := fun j a o hj h' => by
    obtain ⟨ord, h1, _⟩ := h.tab j hj
    by_cases e : j = r
    · subst e
      have k2 : TabB (w.setCell ⟨T j, 0, none⟩ (.int .i64 i)) (T j) (M j) i ord := by
        unfold TabB at h1 ⊢
        simp [World.setCell, Array.getElem?_modify, h1]
      rw [← k2.ord h']
      exact h1
    · have k2 : TabB (w.setCell ⟨T r, 0, none⟩ (.int .i64 i)) (T j) (M j) (at_ j) ord := (Below.heap_setCell _ _ _ _ (show T j ≠ T r from fun x => e (h.inj j r hj hr x))).trans h1
      rw [← k2.ord h']
      exact h1
  exact ⟨hp.lo, fun j a o g hj ht hg => hp.own j _ o g hj (old j a o hj ht) hg, fun i j a o a' o' g hi hj h1 h2 g1 g2 => hp.one i j _ o _ o' g hi hj (old i a o hi h1) (old j a' o' hj h2) g1 g2⟩

end Go.Proofs.Ytagalpfmpdeifab

namespace Go.Proofs.Ytagalpfmpdeifab
open Go.RowKit Vl

/-- What a table looks like: its class, and a hundred numbers. -/
structure Lk where
  was : Nat
  parts : Nat → Nat

def lkCells (l : Lk) : List Value := .int .i64 (l.was : Nat) :: (List.range 100).map fun i => .int .u16 (l.parts i : Nat)
theorem lkCells_len (l : Lk) : (lkCells l).length = 101 := by simp [lkCells]
abbrev lkV (l : Lk) : Value := .agg (lkCells l).toArray
def lkEq (a b : Lk) : Bool := a.was == b.was && (List.range 100).all fun i => a.parts i == b.parts i
theorem lkEq_iff {a b : Lk} : lkEq a b = true ↔ a.was = b.was ∧ ∀ i, i < 100 → a.parts i = b.parts i := by
  simp [lkEq]

theorem look_chk (em : Bool) (l : Lk) (w : World) : (Instr.checkKey em 10000 180 (lkV l)).run Try.prog w = .ok () w := by
  kernel_rfl

theorem isAgg_no {t : TypeId} {k : IntKind} (h : Try.prog.underlying t = some (.int k)) (w : World) : (isAgg t).run Try.prog w = .ok false w := by
  unfold isAgg
  rw [Sem.run_bind, run_underlying h w]
  rfl

theorem eq_items (d : Nat) (xs ys : Array Value) (p q : Nat → Nat) (w : World) : ∀ is : List Nat, (∀ i ∈ is, xs[i]? = some (.int .u16 (p i : Nat)) ∧ ys[i]? = some (.int .u16 (q i : Nat))) → (Op.eqItems (d + 1) 177 1 xs ys is).run Try.prog w = .ok (is.all fun i => p i == q i) w
  | [], _ => rfl
  | i :: is, h => by
    obtain ⟨h1, h2⟩ := h i (by simp)
    have e1 : (part 177 xs (i * 1)).run Try.prog w = .ok (.int .u16 (p i : Nat)) w := by
      unfold part
      rw [Sem.run_bind, isAgg_no Try.underlying177]
      simp [h1]
    have e2 : (part 177 ys (i * 1)).run Try.prog w = .ok (.int .u16 (q i : Nat)) w := by
      unfold part
      rw [Sem.run_bind, isAgg_no Try.underlying177]
      simp [h2]
    have ih := eq_items d xs ys p q w is (fun j hj => h j (by simp [hj]))
    simp only [Op.eqItems, Sem.run_bind, e1, e2, Result.andThen_ok, run_equalIn_int w d 177 .u16 .u16 _ _ Try.underlying177]
    have hb : ((p i : Int) == (q i : Int)) = (p i == q i) := by
      by_cases e : p i = q i
      · rw [e, beq_self_eq_true, beq_self_eq_true]
      · have e' : ¬ ((p i : Int) = (q i : Int)) := by omega
        rw [beq_false_of_ne e, beq_false_of_ne e']
    rw [hb]
    cases hc : p i == q i
    · simp [hc]
    · simp only [Bool.not_true, Bool.false_eq_true, if_false, List.all_cons, hc, Bool.true_and]
      exact ih

theorem lk_at0 (l : Lk) : (lkCells l).toArray[0]? = some (.int .i64 (l.was : Nat)) := by simp [lkCells]
theorem lk_part (l : Lk) (i : Nat) (hi : i < 100) : ((lkCells l).toArray.extract 1 101)[i]? = some (.int .u16 (l.parts i : Nat)) := by
  rw [Array.getElem?_extract, if_pos (by simp [lkCells]; omega)]
  have e : (lkCells l)[1 + i]? = some (.int .u16 (l.parts i : Nat)) := by
    rw [Nat.add_comm]
    simp [lkCells, hi]
  simpa using e

theorem eq_arr (d : Nat) (xs ys : Array Value) (p q : Nat → Nat) (w : World) (h : ∀ i, i < 100 → xs[i]? = some (.int .u16 (p i : Nat)) ∧ ys[i]? = some (.int .u16 (q i : Nat))) : (Op.equalIn (d + 2) 178 (.agg xs) (.agg ys)).run Try.prog w = .ok ((List.range 100).all fun i => p i == q i) w := by
  obtain ⟨iu, hiu⟩ : ∃ iu, Try.prog.info? 177 = some iu := by
    have h : (Try.prog.info? 177).isSome = true := by kernel_rfl
    exact Option.isSome_iff_exists.1 h
  have hcell : Try.prog.cellsOf 177 = 1 := by kernel_rfl
  rw [run_equalIn_array w (d + 1) xs ys Try.underlying178 hiu, hcell]
  exact eq_items d xs ys p q w _ (fun i hi => h i (List.mem_range.1 hi))

theorem part_int (xs : Array Value) (u : Value) (w : World) (h : xs[0]? = some u) : (part 3 xs 0).run Try.prog w = .ok u w := by
  unfold part
  rw [Sem.run_bind, isAgg_no Try.underlying3]
  simp [h]
theorem part_arr (xs : Array Value) (w : World) : (part 178 xs 1).run Try.prog w = .ok (.agg (xs.extract 1 (1 + 100))) w := by
  have h1 : (isAgg 178).run Try.prog w = .ok true w := by kernel_rfl
  have h2 : (sizeOf 178).run Try.prog w = .ok 100 w := by kernel_rfl
  unfold part
  rw [Sem.run_bind, h1]
  simp only [Result.andThen_ok, if_true, Sem.run_bind, h2, Sem.run_pure]

theorem eq_look (d : Nat) (xs ys : Array Value) (u v : Nat) (p q : Nat → Nat) (w : World) (hu : xs[0]? = some (.int .i64 (u : Nat))) (hv : ys[0]? = some (.int .i64 (v : Nat))) (h : ∀ i, i < 100 → (xs.extract 1 (1 + 100))[i]? = some (.int .u16 (p i : Nat)) ∧ (ys.extract 1 (1 + 100))[i]? = some (.int .u16 (q i : Nat))) :
    (Op.equalIn (d + 3) 180 (.agg xs) (.agg ys)).run Try.prog w = .ok (u == v && (List.range 100).all fun i => p i == q i) w := by
  rw [run_equalIn_struct w (d + 2) 180 xs ys (by kernel_rfl) (by kernel_rfl)]
  have hf : (Try.prog.fieldsOf 180).toList.map (fun f => (f.name == "_", f.type, f.offset)) = [(false, 3, 0), (false, 178, 1)] := by kernel_rfl
  generalize (Try.prog.fieldsOf 180).toList = fs at hf
  obtain ⟨f, g, rfl⟩ : ∃ f g, fs = [f, g] := by
    cases fs with
    | nil => simp at hf
    | cons f fs =>
      cases fs with
      | nil => simp at hf
      | cons g fs =>
        cases fs with
        | nil => exact ⟨f, g, rfl⟩
        | cons => simp at hf
  simp only [List.map_cons, List.map_nil, List.cons.injEq, Prod.mk.injEq, and_true] at hf
  obtain ⟨⟨f1, f2, f3⟩, ⟨g1, g2, g3⟩⟩ := hf
  have f1' : f.name ≠ "_" := by simpa using f1
  have g1' : g.name ≠ "_" := by simpa using g1
  have hb : ((u : Int) == (v : Int)) = (u == v) := by
    by_cases e : u = v
    · rw [e, beq_self_eq_true, beq_self_eq_true]
    · have e' : ¬ ((u : Int) = (v : Int)) := by omega
      rw [beq_false_of_ne e, beq_false_of_ne e']
  have e3 := eq_arr d _ _ p q w h
  generalize (List.range 100).all (fun i => p i == q i) = r at e3 ⊢
  have e4 : (Op.eqFields (d + 2) xs ys [g]).run Try.prog w = .ok r w := by
    unfold Op.eqFields
    rw [if_pos g1', g2, g3]
    simp only [Sem.run_bind, part_arr, Result.andThen_ok, e3]
    cases r
    · simp only [Bool.not_false, if_true, Sem.run_pure]
    · simp only [Bool.not_true, Bool.false_eq_true, if_false, Op.eqFields, Sem.run_pure]
  unfold Op.eqFields
  rw [if_pos f1', f2, f3]
  simp only [Sem.run_bind, part_int xs _ w hu, part_int ys _ w hv, Result.andThen_ok, run_equalIn_int w (d + 1) 3 .i64 .i64 _ _ Try.underlying3, hb]
  cases u == v
  · simp only [Bool.not_false, if_true, Bool.false_and, Sem.run_pure]
  · simp only [Bool.not_true, Bool.false_eq_true, if_false, Bool.true_and]
    exact e4

theorem look_eq (a b : Lk) (w : World) : (Op.equal 180 (lkV a) (lkV b)).run Try.prog w = .ok (lkEq a b) w :=
  eq_look 9997 (lkCells a).toArray (lkCells b).toArray a.was b.was a.parts b.parts w (lk_at0 a) (lk_at0 b) (fun i hi => ⟨lk_part a i hi, lk_part b i hi⟩)

theorem look_keyed : Keyed 206 180 3 lkV (fun _ _ => True) lkEq (.int .i64 0) where
  und := Try.underlying206
  eq := fun u v w _ _ => look_eq u v w
  chk := fun em v w => look_chk em v w
  now := ⟨_, Try.underlying180, fun u v => rfl⟩
  zero := fun w => by kernel_rfl

end Go.Proofs.Ytagalpfmpdeifab

namespace Go.Proofs.Ytagalpfmpdeifab
open Go.RowKit Vl

instance instV : BEq V := ⟨eqV⟩
instance instLV : LawfulBEq V where
  eq_of_beq h := eqV_iff.1 h
  rfl := eqV_iff.2 rfl

abbrev PV2 := V × V
abbrev pAgg (p : PV2) : Value := .agg #[.int .i64 p.1.k, .int .i64 p.1.n, .string p.1.s, .int .i64 p.1.a, .int .i64 p.2.k, .int .i64 p.2.n, .string p.2.s, .int .i64 p.2.a]

theorem eqIn_val (d : Nat) (u v : V) (w : World) : (Op.equalIn (d + 2) 29 (vAgg u) (vAgg v)).run Try.prog w = .ok (eqV u v) w := by
  go_simp
  by_cases h1 : u.k = v.k <;> by_cases h2 : u.n = v.n <;> by_cases h3 : u.s.toList = v.s.toList <;> by_cases h4 : u.a = v.a <;> simp [eqV, h1, h2, h3, h4]

theorem part_val (p : PV2) (w : World) : (part 29 #[.int .i64 p.1.k, .int .i64 p.1.n, .string p.1.s, .int .i64 p.1.a, .int .i64 p.2.k, .int .i64 p.2.n, .string p.2.s, .int .i64 p.2.a] 0).run Try.prog w = .ok (vAgg p.1) w ∧ (part 29 #[.int .i64 p.1.k, .int .i64 p.1.n, .string p.1.s, .int .i64 p.1.a, .int .i64 p.2.k, .int .i64 p.2.n, .string p.2.s, .int .i64 p.2.a] 4).run Try.prog w = .ok (vAgg p.2) w := by
  constructor <;> kernel_rfl

theorem eq_pair (d : Nat) (p q : PV2) (w : World) : (Op.equalIn (d + 3) 63 (pAgg p) (pAgg q)).run Try.prog w = .ok (p == q) w := by
  rw [run_equalIn_struct w (d + 2) 63 _ _ (by kernel_rfl) (by kernel_rfl)]
  have hf : (Try.prog.fieldsOf 63).toList.map (fun f => (f.name == "_", f.type, f.offset)) = [(false, 29, 0), (false, 29, 4)] := by kernel_rfl
  generalize (Try.prog.fieldsOf 63).toList = fs at hf
  obtain ⟨f, g, rfl⟩ : ∃ f g, fs = [f, g] := by
    cases fs with
    | nil => simp at hf
    | cons f fs =>
      cases fs with
      | nil => simp at hf
      | cons g fs =>
        cases fs with
        | nil => exact ⟨f, g, rfl⟩
        | cons => simp at hf
  simp only [List.map_cons, List.map_nil, List.cons.injEq, Prod.mk.injEq, and_true] at hf
  obtain ⟨⟨f1, f2, f3⟩, ⟨g1, g2, g3⟩⟩ := hf
  have f1' : f.name ≠ "_" := by simpa using f1
  have g1' : g.name ≠ "_" := by simpa using g1
  have e4 : (Op.eqFields (d + 2) #[.int .i64 p.1.k, .int .i64 p.1.n, .string p.1.s, .int .i64 p.1.a, .int .i64 p.2.k, .int .i64 p.2.n, .string p.2.s, .int .i64 p.2.a] #[.int .i64 q.1.k, .int .i64 q.1.n, .string q.1.s, .int .i64 q.1.a, .int .i64 q.2.k, .int .i64 q.2.n, .string q.2.s, .int .i64 q.2.a] [g]).run Try.prog w = .ok (eqV p.2 q.2) w := by
    unfold Op.eqFields
    rw [if_pos g1', g2, g3]
    simp only [Sem.run_bind, (part_val p w).2, (part_val q w).2, Result.andThen_ok, eqIn_val d]
    cases eqV p.2 q.2
    · simp only [Bool.not_false, if_true, Sem.run_pure]
    · simp only [Bool.not_true, Bool.false_eq_true, if_false, Op.eqFields, Sem.run_pure]
  have e5 : (p == q) = (eqV p.1 q.1 && eqV p.2 q.2) := rfl
  rw [e5]
  unfold Op.eqFields
  rw [if_pos f1', f2, f3]
  simp only [Sem.run_bind, (part_val p w).1, (part_val q w).1, Result.andThen_ok, eqIn_val d]
  cases eqV p.1 q.1
  · simp only [Bool.not_false, if_true, Bool.false_and, Sem.run_pure]
  · simp only [Bool.not_true, Bool.false_eq_true, if_false, Bool.true_and]
    exact e4

theorem pair_keyed : Keyed 175 63 177 pAgg (fun _ _ => True) (fun p q => p == q) (.int .u16 0) where
  und := Try.underlying175
  eq := fun u v w _ _ => eq_pair 9997 u v w
  chk := fun em v w => by kernel_rfl
  now := ⟨_, Try.underlying63, fun u v => rfl⟩
  zero := fun w => by kernel_rfl

/-- Numbered pairs. -/
def knM (kn : List PV2) (s : Nat) : List (PV2 × Value) := (kn.zipIdx s).map fun p => (p.1, .int .u16 ((p.2 + 1 : Nat) : Int))
theorem knM_snoc (kn : List PV2) (p : PV2) (s : Nat) : knM (kn ++ [p]) s = knM kn s ++ [(p, .int .u16 ((s + kn.length + 1 : Nat) : Int))] := by
  unfold knM
  rw [List.zipIdx_append]
  simp
theorem knM_len (kn : List PV2) (s : Nat) : (knM kn s).length = kn.length := by simp [knM]
theorem knM_find (p : PV2) : ∀ (kn : List PV2) (s : Nat), findG (fun p q => p == q) p (knM kn s) = if p ∈ kn then some (.int .u16 ((s + kn.idxOf p + 1 : Nat) : Int)) else none
  | [], s => rfl
  | q :: kn, s => by
    have ih := knM_find p kn (s + 1)
    have e : knM (q :: kn) s = (q, .int .u16 ((s + 1 : Nat) : Int)) :: knM kn (s + 1) := rfl
    rw [e]
    simp only [findG]
    by_cases h : p = q
    · subst h
      rw [if_pos (by simp), if_pos (by simp)]
      simp
    · rw [if_neg (by simpa using h), ih]
      by_cases hm : p ∈ kn
      · rw [if_pos hm, if_pos (by simp [hm])]
        have hq : (q == p) = false := by simpa using fun e => h e.symm
        rw [List.idxOf_cons, hq]
        simp only [cond_false]
        congr 3
        omega
      · rw [if_neg hm, if_neg (by simp [hm, h])]

/-- A pair more. -/
def addTo (kn : List PV2) (p : PV2) : List PV2 := if p ∈ kn then kn else kn ++ [p]
theorem addTo_pre (kn : List PV2) (p : PV2) : kn <+: addTo kn p := by
  unfold addTo
  split
  · exact List.prefix_refl _
  · exact List.prefix_append _ _
theorem addTo_mem (kn : List PV2) (p : PV2) : p ∈ addTo kn p := by
  unfold addTo
  split
  · assumption
  · simp
theorem addTo_len (kn : List PV2) (p : PV2) : (addTo kn p).length ≤ kn.length + 1 := by
  unfold addTo
  split
  · omega
  · simp
/-- Pairs one after another. -/
def kns (kn : List PV2) (pr : Nat → PV2) : Nat → List PV2
  | 0 => kn
  | c + 1 => addTo (kns kn pr c) (pr c)
theorem kns_pre (kn : List PV2) (pr : Nat → PV2) : ∀ {c d : Nat}, c ≤ d → kns kn pr c <+: kns kn pr d := by
  intro c d h
  induction h with
  | refl => exact List.prefix_refl _
  | step _ ih => exact ih.trans (addTo_pre _ _)
theorem kns_mem (kn : List PV2) (pr : Nat → PV2) {c d : Nat} (h : c < d) : pr c ∈ kns kn pr d := (kns_pre kn pr (show c + 1 ≤ d from h)).subset (addTo_mem _ _)
theorem kns_len (kn : List PV2) (pr : Nat → PV2) : ∀ c, (kns kn pr c).length ≤ kn.length + c
  | 0 => Nat.le_refl _
  | c + 1 => by have := kns_len kn pr c; have := addTo_len (kns kn pr c) (pr c); show (addTo (kns kn pr c) (pr c)).length ≤ _; omega
theorem idx_pre {kn kn' : List PV2} (h : kn <+: kn') {p : PV2} (hp : p ∈ kn) : kn'.idxOf p = kn.idxOf p := by
  obtain ⟨t, rfl⟩ := h
  rw [List.idxOf_append, if_pos hp]

end Go.Proofs.Ytagalpfmpdeifab
