import Derived.Test.YtgflalfiopnmnaaDoorSpPass
import Derived.Deep.CutRange
namespace Go.Proofs.YtgflalfiopnmnaaDoor
open Go.RowKit Rk So

/-- The blocks that the model's sort lays first. -/
def zeroD : Obj := .cells #[.int .i64 0, .slice none 0 0, .slice none 0 0] 28

def OutSt (M : Nat → Nat → Int) (n s : Nat) (o : List Nat) (q : List (Nat × Nat)) (V : List (Nat × Nat) × Option (List Nat)) (b : Bool) : Prop :=
  if b = true then V = (q, none) else (all M n s o q = V ∧ o.length = n ∧ ∀ z ∈ o, z < n)

def InSt (M : Nat → Nat → Int) (n s f : Nat) (o N : List Nat) (q : List (Nat × Nat)) (U : List (Nat × Nat) × Option (List Nat)) (b : Bool) : Prop :=
  if b = true then U = (q, none) else (pass M n s f (N ++ o.drop f) q = U ∧ N.length = min f n ∧ ∀ z ∈ N, z < n)

def OutRel (w0 : World) (S D n : Nat) (hd : Value) (M : Nat → Nat → Int) (V : List (Nat × Nat) × Option (List Nat)) (ord sz : Value) (wr : World) : Prop :=
  ∃ (s : Nat) (q : List (Nat × Nat)) (o : List Nat) (v : Value) (b : Bool), 0 < s ∧ s ≤ 400 ∧ q.length ≤ 1000 * s ∧ v = ord ∧ sz = .int .i64 s ∧ Hid (SInv w0 wr S (S + 1) hd q b) ∧ Hid (wr.ownsRow (S + 1) 3 1 v o.length (ints o)) ∧
    Hid (wr.heap[D]? = some zeroD) ∧ Hid (OutSt M n s o q V b)

def InRel (w0 : World) (S D n s R Bn : Nat) (cur : Array Value) (hd : Value) (M : Nat → Nat → Int) (o : List Nat) (U : List (Nat × Nat) × Option (List Nat)) (nx fr : Value) (wr : World) : Prop :=
  ∃ (f : Nat) (q : List (Nat × Nat)) (N : List Nat) (v : Value) (b : Bool), f < n + 2 * s ∧ q.length ≤ 1000 * s + f ∧ v = nx ∧ fr = .int .i64 f ∧ N.length ≤ n ∧ Bn ≤ wr.heap.size ∧ Hid (SInv w0 wr S (S + 1) hd q b) ∧ Hid (wr.ownsRow Bn 3 1 v N.length (ints N)) ∧
    Hid (wr.heap[D]? = some zeroD) ∧ Hid (wr.heap[R]? = some (.cells cur 3 (0, 0))) ∧ Hid (InSt M n s f o N q U b)

def CyRel (w0 : World) (S D R Bn gm : Nat) (cur curm : Array Value) (hd : Value) (q : List (Nat × Nat)) (b : Bool) (N m : List Nat) (nx kk : Value) (wr : World) : Prop :=
  ∃ (k : Nat) (v : Value), k ≤ m.length ∧ v = nx ∧ kk = .int .i64 k ∧ Bn ≤ wr.heap.size ∧ Hid (SInv w0 wr S (S + 1) hd q b) ∧ Hid (wr.ownsRow Bn 3 1 v (N.length + k) (ints (N ++ m.take k))) ∧
    Hid (wr.heap[D]? = some zeroD) ∧ Hid (wr.heap[R]? = some (.cells cur 3 (0, 0))) ∧ Hid (wr.heap[gm]? = some (.cells curm 3 (0, 0))) ∧ Hid (v.ownBlock ≠ some gm)

theorem take_snoc {m : List Nat} {k x : Nat} (h : m[k]? = some x) : m.take (k + 1) = m.take k ++ [x] := by
  rw [List.take_add_one, h]; rfl

/-- A block below an own row is kept when the row grows. -/
theorem grown_keep {w w' : World} {v : Value} {bb n k : Nat} {xs : List Value} {o : Obj} (ho : w.ownsRow bb 3 1 v n xs) (hg : w.grownBy w' v.ownBlock) (hk : w.heap[k]? = some o) (hb : k < bb) : w'.heap[k]? = some o := by
  have hl : k < w.heap.size := by
    rw [Array.getElem?_eq_some_iff] at hk
    exact hk.1
  rw [hg.block k hl (fun e => ?_), hk]
  rcases ho.2 with ⟨rfl, _⟩ | ⟨g, cap, cur, rfl, hgb, hh, _⟩
  · simp [Value.ownBlock] at e
  · simp [Value.ownBlock] at e; omega
theorem grown_keep' {w w' : World} {v : Value} {k : Nat} {o : Obj} (hg : w.grownBy w' v.ownBlock) (hk : w.heap[k]? = some o) (hb : v.ownBlock ≠ some k) : w'.heap[k]? = some o := by
  have hl : k < w.heap.size := by
    rw [Array.getElem?_eq_some_iff] at hk
    exact hk.1
  rw [hg.block k hl (fun e => hb e.symm), hk]
theorem alloc_keep {w : World} {k : Nat} {o : Obj} (x : Obj) (hk : w.heap[k]? = some o) : (w.alloc x).heap[k]? = some o := by
  have hl : k < w.heap.size := by
    rw [Array.getElem?_eq_some_iff] at hk
    exact hk.1
  rw [Below.heap_alloc _ _ _ hl]; exact hk

theorem spBegin {w wr : World} {hd : Value} {n : Nat} (h200 : n ≤ 200) (hF : Fill ((w.alloc (.cells #[.int .i64 0, .slice none 0 0, .slice none 0 0] 28)).alloc (.cells #[hd, .slice none 0 0, .bool false] 50)) wr 3 n n (.int .i64 0) (fun c => .int .i64 (c : Nat))) :
    SInv w wr (w.heap.size + 1) (w.heap.size + 1 + 1) hd [] false ∧ wr.ownsRow (w.heap.size + 1 + 1) 3 1 (.slice (some ⟨w.heap.size + 1 + 1, 0, none⟩) n n) (List.range n).length (ints (List.range n)) ∧ wr.heap[w.heap.size]? = some zeroD := by
  have hs : wr.heap.size = w.heap.size + 1 + 1 + 1 := by have := hF.size; simpa using this
  have hr := block_of_rowIs hF.done
  have hb : Below w.heap.size w wr := (((Below.refl _ _).alloc (Nat.le_refl _) _).alloc (by simp) _).trans (hF.bel.mono (by simp; omega))
  have hD : wr.heap[w.heap.size]? = some zeroD := by
    rw [hF.bel.block _ (by simp; omega)]
    exact alloc_keep _ (heap_alloc_new _ _)
  have hS : wr.heap[w.heap.size + 1]? = some (.cells #[hd, .slice none 0 0, .bool false] 50 (0, 0)) := by
    rw [hF.bel.block _ (by simp)]
    have := heap_alloc_new (w.alloc (.cells #[.int .i64 0, .slice none 0 0, .slice none 0 0] 28)) (.cells #[hd, .slice none 0 0, .bool false] 50)
    simpa using this
  have hr' : wr.heap[w.heap.size + 1 + 1]? = some (.cells (ints (List.range n)).toArray 3 (0, 0)) := by simpa using hr
  refine ⟨⟨hb, by omega, ⟨.slice none 0 0, hS, World.ownsRow_nil _ _ _ _⟩, by omega, by omega⟩, ?_, hD⟩
  have := owns_ints hr' (Nat.le_refl _) (by simp : (List.range n).length = n) h200
  simpa using this

theorem owns_lt {w : World} {v : Value} {bb n g : Nat} {xs : List Value} (ho : w.ownsRow bb 3 1 v n xs) (e : v.ownBlock = some g) : g < w.heap.size := by
  rcases ho.2 with ⟨rfl, _⟩ | ⟨g', cap, cur, rfl, hgb, hh, _⟩
  · simp [Value.ownBlock] at e
  · simp [Value.ownBlock] at e; subst e; exact lt_of_block hh

/-- A step of the model's pass keeps what stands. -/
theorem inSt_step {M : Nat → Nat → Int} {n s f : Nat} {o N mm : List Nat} {q a : List (Nat × Nat)} {r : Option (List Nat)} {U : List (Nat × Nat) × Option (List Nat)} (h0 : 0 < s) (hf : f < n) (ho : o.length = n) (hoz : ∀ z ∈ o, z < n) {m e : Nat} (hm : m = min (f + s) n) (he : e = min (f + 2 * s) n)
    (hmg : mg M (seg o f m) (seg o m e) = (a, r)) (hmr : ∀ m', r = some m' → mm = m') (hml : mm.length = m - f + (e - m)) (h : pass M n s f (N ++ o.drop f) q = U ∧ N.length = min f n ∧ ∀ z ∈ N, z < n) : InSt M n s (f + 2 * s) o (N ++ mm) (q ++ a) U r.isNone := by
  subst hm he
  have hN : N.length = f := by have := h.2.1; omega
  obtain ⟨h1, h2⟩ := spass h0 hf ho hN hmg h.1
  unfold InSt
  cases r with
  | none => simp only [Option.isNone_none, if_true]; exact h1 rfl
  | some m' =>
    have e1 := hmr m' rfl
    subst e1
    simp only [Option.isNone_some]
    rw [if_neg (by simp)]
    refine ⟨h2 mm rfl, by simp [hml, hN]; omega, fun z hz => ?_⟩
    rcases List.mem_append.1 hz with hz | hz
    · exact h.2.2 z hz
    · have := (mg_perm M _ _ hmg).mem_iff.1 hz
      simp only [List.mem_append, seg] at this
      rcases this with h | h
      · exact hoz z (List.mem_of_mem_drop (List.mem_of_mem_take h))
      · exact hoz z (List.mem_of_mem_drop (List.mem_of_mem_take h))

/-- A pass is done. -/
theorem outSt_next {M : Nat → Nat → Int} {n s f : Nat} {o N : List Nat} {q q2 : List (Nat × Nat)} {U V : List (Nat × Nat) × Option (List Nat)} {b : Bool} (h0 : 0 < s) (hs : s < n) (ho : o.length = n) (hA : all M n s o q = V) (hU : pass M n s 0 o q = U) (h : InSt M n s f o N q2 U b) (hx : ¬ (f < n ∧ b = false)) : OutSt M n (2 * s) N q2 V b := by
  unfold InSt at h
  unfold OutSt
  cases b
  · rw [if_neg (by simp)] at h ⊢
    have hfn : ¬ f < n := fun x => hx ⟨x, rfl⟩
    obtain ⟨h1, h2, h3⟩ := h
    rw [List.drop_eq_nil_of_le (by omega), List.append_nil, pass_no (by omega)] at h1
    subst h1
    exact ⟨by rw [← hA, all_yes hs h0 hU], by omega, h3⟩
  · rw [if_pos rfl] at h ⊢
    subst h
    rw [← hA, all_bad hs h0 hU]

set_option maxRecDepth 8000 in
set_option maxHeartbeats 4000000 in
/-- 'spec.Sort'. -/
theorem spSort_any (w : World) (ga : Option Addr) (gb go n cp : Nat) (A : Nat → Option Addr) (L C RB RO : Nat → Nat) (M : Nat → Nat → Int)
    (hga : 0 < n → ga = some ⟨gb, go, none⟩) (hn : n ≤ 1048576) (HL : Hid (∀ r, r < n → L r ≤ 1048576)) (HM : Hid (MatR w gb go n A L C RB RO M)) :
    Calls Tryd.prog 8 #[.slice ga n cp] w fun e w' => ∃ (code : Int) (o : List Nat) (q : List (Nat × Nat)) (ov av : Value), Hid (Out n L M code o q) ∧ e = .returned (.agg #[.int .i64 code, ov, av]) ∧ SortRes w w' ov av o q := by
  have hb0 : Below w.heap.size w (w.alloc (.cells #[.int .i64 0, .slice none 0 0, .slice none 0 0] 28)) := (Below.refl _ _).alloc (Nat.le_refl _) _
  obtain ⟨i0, hi, hz0, hz1, hz2⟩ := info_parts Tryd.info3
  go_enter Tryd.func8, Tryd.ntmps8
  go_wp2_with fail
  refine (specSq_any ga gb go n cp A L C RB RO M _ hga hn HL.out (HM.out.below hb0)).mono ?_
  rintro e w1 ⟨⟨b, rfl, hb⟩, hw1⟩
  subst hw1
  cases b
  · have hno : Hid (¬ Sq n L M) := by show ¬ Sq n L M; simpa using hb
    clear hb hb0
    go_wp2
    refine bodyPost_ret (v := .agg #[.int .i64 1, .slice none 0 0, .slice none 0 0]) (by simp [results, Tryd.results8, go_sem]) rfl ⟨1, [], [], .slice none 0 0, .slice none 0 0, Or.inl ⟨hno.out, rfl, rfl, rfl⟩, rfl, (Below.refl _ _).alloc (Nat.le_refl _) _, World.ownsRow_nil _ _ _ _, World.ownsRow_nil _ _ _ _⟩
  · have hs : Sq n L M := by simpa using hb
    have h200 : n ≤ 200 := hs.1
    have HS : Hid (Sq n L M) := hs
    clear hb hs hb0
    have hmk := run_make_row' (P := Tryd.prog) 25 3 (.int .i64 0) 8 Tryd.underlying25 Tryd.info3 rfl .i64 .i64 n (by omega) (by omega)
    have es : ((w.alloc (.cells #[.int .i64 0, .slice none 0 0, .slice none 0 0] 28)).alloc (.cells #[.slice ga n cp, .slice none 0 0, .bool false] 50)).heap.size = w.heap.size + 1 + 1 := by simp
    have Es : Hid _ := es
    clear es
    go_wp2
    clear hmk
    go_loopw [27] (fun i wr => ∃ k : Nat, k ≤ n ∧ i = .int .i64 k ∧ Hid (Fill ((w.alloc (.cells #[.int .i64 0, .slice none 0 0, .slice none 0 0] 28)).alloc (.cells #[.slice ga n cp, .slice none 0 0, .bool false] 50)) wr 3 n k (.int .i64 0) (fun c => .int .i64 (c : Nat)))) (fun i _ => n - (intOf i).toNat)
    case atStart => exact ⟨0, Nat.zero_le _, rfl, Fill.start _ _ _ _ _⟩
    case round =>
      obtain ⟨k, hk, rfl, HF⟩ := hrel
      by_cases hlt : k < n
      · have ho := HF.out.cellAt hlt
        have hz := HF.out.row.frozen k
        have hn' := HF.out.step
        rw [Es.out] at ho hz hn'
        have HN : Hid _ := hn'
        clear hn' HF
        go_wp2
        go_roundw
        case rel => exact ⟨k + 1, by omega, by go_num, HN.out⟩
        case measure => simp [intOf]; omega
      · obtain rfl : k = n := by omega
        obtain ⟨hI1, hO1, hD1⟩ := spBegin h200 HF.out
        have HI1 : Hid _ := hI1
        have HO1 : Hid _ := hO1
        have HD1 : Hid _ := hD1
        clear hI1 hO1 hD1
        obtain ⟨V, HV⟩ : ∃ V, Hid (all M k 1 (List.range k) [] = V) := ⟨_, rfl⟩
        go_wp2
        go_loopw [5, 7] (fun ord sz wr => OutRel w (w.heap.size + 1) w.heap.size k (.slice ga k cp) M V ord sz wr) (fun _ t _ => 400 - (intOf t).toNat)
        case atStart => exact ⟨1, [], List.range k, _, false, by omega, by omega, by simp, rfl, rfl, HI1, HO1, HD1, HV.out, by simp, by simp⟩
        case round =>
          clear HI1 HO1 HD1 HF
          obtain ⟨s, q, o, ord, b, hs0, hs1, hq, rfl, rfl, HI2, HO2, HD2, HU2⟩ := hrel
          have f1 := HI2.out.failCell
          by_cases hgo : s < k ∧ b = false
          · obtain ⟨hlt2, rfl⟩ := hgo
            have HA2 : Hid (all M k s o q = V ∧ o.length = k ∧ ∀ z ∈ o, z < k) := HU2.out
            have hol : o.length = k := HA2.out.2.1
            obtain ⟨R, cap, cur, hv, hR, hcap, hRb, hcur⟩ := owns_block HO2.out (by omega)
            rw [hol] at hv hcap
            subst hv
            have HRb : Hid _ := hRb
            have HC : Hid _ := hcur
            obtain ⟨U, HU⟩ : ∃ U, Hid (pass M k s 0 o q = U) := ⟨_, rfl⟩
            obtain ⟨Bn, hBn⟩ : ∃ Bn, wr.heap.size = Bn := ⟨_, rfl⟩
            have hRB : R < Bn := by rw [← hBn]; exact lt_of_block hRb
            have hSB : w.heap.size + 1 < Bn := by rw [← hBn]; exact HI2.out.size
            clear hRb hcur HO2 HU2
            obtain ⟨wo, hwo⟩ : ∃ wo : World, wo = wr := ⟨_, rfl⟩
            go_wp2
            go_loopw [8, 9] (fun nx fr wr => InRel w (w.heap.size + 1) w.heap.size k s R Bn cur (.slice ga k cp) M o U nx fr wr) (fun _ t _ => 1000 - (intOf t).toNat)
            case atStart => exact ⟨0, q, [], .slice none 0 0, false, by omega, by omega, rfl, rfl, by simp, by omega, HI2, World.ownsRow_nil _ _ _ _, HD2, HRb, HU.out, by simp, by simp⟩
            case round =>
              clear hwo f1 HI2 HD2 HRb
              obtain ⟨f, q2, N, nx, b, hf, hq2, rfl, rfl, hN, hB, HI3, HO3, HD3, HR3, HU3⟩ := hrel
              have f1 := HI3.out.failCell
              by_cases hgo : f < k ∧ b = false
              · obtain ⟨hfl, rfl⟩ := hgo
                have HA3 : Hid (pass M k s f (N ++ o.drop f) q2 = U ∧ N.length = min f k ∧ ∀ z ∈ N, z < k) := HU3.out
                have hNf : N.length = f := by have := HA3.out.2.1; omega
                obtain ⟨m, hm⟩ : ∃ m, m = min (f + s) k := ⟨_, rfl⟩
                obtain ⟨e, he⟩ : ∃ e, e = min (f + 2 * s) k := ⟨_, rfl⟩
                obtain ⟨G, HG⟩ : ∃ G, Hid (mg M (seg o f m) (seg o m e) = G) := ⟨_, rfl⟩
                obtain ⟨a, r⟩ := G
                have hl1 := seg_length (o := o) (f := f) (e := m) (by omega)
                have hl2 := seg_length (o := o) (f := m) (e := e) (by omega)
                have hal : a.length ≤ 2 * s := by have := asks_le HG.out; omega
                have hmg := spMerge_any w wr.drew (w.heap.size + 1) (w.heap.size + 1 + 1) R f m ga gb go k cp A L C RB RO M q2 hga HS HM HI3.out.drew (by omega) (seg o f m) (seg o m e) (cutAt R f cap) (cutAt R m cap) (cap - f) (cap - m) (m - f) (e - m) hl1 hl2 (by omega) (by omega)
                  (fun h => cutAt_in (by omega)) (fun h => cutAt_in (by omega)) ⟨cur, _, HR3.out, fun i x h => HC.out _ _ (seg_get h), fun i x h => HC.out _ _ (seg_get h)⟩ (by omega)
                  ⟨fun z hz => HA2.out.2.2 z (List.mem_of_mem_drop (List.mem_of_mem_take hz)), fun z hz => HA2.out.2.2 z (List.mem_of_mem_drop (List.mem_of_mem_take hz))⟩ a r HG
                have hk1 := fun fi mi h1 h2 => run_cutc R f m k cap fi mi h1 h2 (by omega) (by omega)
                have hk2 := fun fi mi h1 h2 => run_cutc R m e k cap fi mi h1 h2 (by omega) (by omega)
                have HNx : Hid (∀ mm : List Nat, (∀ m', r = some m' → mm = m') → mm.length = m - f + (e - m) → InSt M k s (f + 2 * s) o (N ++ mm) (q2 ++ a) U r.isNone) := fun mm h1 h2 => inSt_step hs0 hfl hol HA2.out.2.2 hm he HG.out h1 h2 HA3.out
                have hme : f < m ∧ m ≤ e ∧ e ≤ k := by omega
                have Hm : Hid (m = min (f + s) k) := hm
                have He : Hid (e = min (f + 2 * s) k) := he
                clear hl1 hl2 HG HA3 HU3 hm he
                have k1 := hk1 (f : Int) (m : Int) rfl rfl
                have k2 := hk2 (m : Int) (e : Int) rfl rfl
                clear hk1 hk2
                go_upto_if 69 with fail
                go_cut [10] from 47 to 94 (fun v wx => v = .int .i64 m ∧ wx = wr)
                case first =>
                  by_cases h3 : f + s ≤ k
                  · go_wp2
                    go_meet
                    exact ⟨by rw [Hm.out, Nat.min_eq_left h3]; go_num, rfl⟩
                  · go_wp2
                    go_meet
                    exact ⟨by rw [Hm.out, Nat.min_eq_right (by omega)], rfl⟩
                case rest =>
                  obtain ⟨rfl, rfl⟩ := hcut
                  go_upto_if 73 with fail
                  go_cut [11] from 47 to 94 (fun v wx => v = .int .i64 e ∧ wx = wc)
                  case first =>
                    by_cases h3 : f + s + s ≤ k
                    · go_wp2
                      go_meet
                      exact ⟨by rw [He.out, Nat.min_eq_left (by omega)]; go_num, rfl⟩
                    · go_wp2
                      go_meet
                      exact ⟨by rw [He.out, Nat.min_eq_right (by omega)], rfl⟩
                  case rest =>
                    obtain ⟨rfl, rfl⟩ := hcut
                    go_upto_region 24 with fail
                    refine wp_region_held_drew (S := fun _ => True) (by kernel_rfl) trivial (fun hHeld => ?_)
                    refine wpAnyH_take (i := 0) (v := .pointer (some ⟨w.heap.size + 1, 0, none⟩)) rfl (by kernel_rfl) (by kernel_rfl) (by kernel_rfl) (fun _ _ _ h => h) (Or.inl ⟨by rfl, fun w hSw => ?_⟩) hHeld ?_
                    · first | rfl | rfl | go_simp
                    simp only [Act.put, List.setIfInBounds_toArray, List.set_cons_zero, List.set_cons_succ, List.getElem_toArray, List.getElem_cons_zero]
                    refine wpAnyH_take (i := 1) (v := .slice (some ⟨R, 0, none⟩) k cap) rfl (by kernel_rfl) (by kernel_rfl) (by kernel_rfl) (fun _ _ _ h => h) (Or.inl ⟨by rfl, fun w hSw => ?_⟩) hHeld ?_
                    · first | rfl | rfl | go_simp
                    simp only [Act.put, List.setIfInBounds_toArray, List.set_cons_zero, List.set_cons_succ, List.getElem_toArray, List.getElem_cons_zero, List.getElem_cons_succ]
                    refine wpAnyH_take (i := 2) (v := .int .i64 f) rfl (by kernel_rfl) (by kernel_rfl) (by kernel_rfl) (fun _ _ _ h => h) (Or.inl ⟨by rfl, fun w hSw => ?_⟩) hHeld ?_
                    · first | rfl | rfl | go_simp
                    simp only [Act.put, List.setIfInBounds_toArray, List.set_cons_zero, List.set_cons_succ, List.getElem_toArray, List.getElem_cons_zero, List.getElem_cons_succ]
                    refine wpAnyH_take (i := 3) (v := .int .i64 m) rfl (by kernel_rfl) (by kernel_rfl) (by kernel_rfl) (fun _ _ _ h => h) (Or.inl ⟨by rfl, fun w hSw => ?_⟩) hHeld ?_
                    · first | rfl | rfl | go_simp
                    simp only [Act.put, List.setIfInBounds_toArray, List.set_cons_zero, List.set_cons_succ, List.getElem_toArray, List.getElem_cons_zero, List.getElem_cons_succ]
                    refine wpAnyH_take (i := 4) (v := .slice (cutAt R f cap) (m - f) (cap - f)) rfl (by kernel_rfl) (by kernel_rfl) (by kernel_rfl) (fun _ _ _ h => h) (Or.inl ⟨by rfl, fun w hSw => ?_⟩) hHeld ?_
                    · first | exact k1 w | rfl | go_simp
                    simp only [Act.put, List.setIfInBounds_toArray, List.set_cons_zero, List.set_cons_succ, List.getElem_toArray, List.getElem_cons_zero, List.getElem_cons_succ]
                    refine wpAnyH_take (i := 5) (v := .slice (some ⟨R, 0, none⟩) k cap) rfl (by kernel_rfl) (by kernel_rfl) (by kernel_rfl) (fun _ _ _ h => h) (Or.inl ⟨by rfl, fun w hSw => ?_⟩) hHeld ?_
                    · first | rfl | rfl | go_simp
                    simp only [Act.put, List.setIfInBounds_toArray, List.set_cons_zero, List.set_cons_succ, List.getElem_toArray, List.getElem_cons_zero, List.getElem_cons_succ]
                    refine wpAnyH_take (i := 6) (v := .int .i64 m) rfl (by kernel_rfl) (by kernel_rfl) (by kernel_rfl) (fun _ _ _ h => h) (Or.inl ⟨by rfl, fun w hSw => ?_⟩) hHeld ?_
                    · first | rfl | rfl | go_simp
                    simp only [Act.put, List.setIfInBounds_toArray, List.set_cons_zero, List.set_cons_succ, List.getElem_toArray, List.getElem_cons_zero, List.getElem_cons_succ]
                    refine wpAnyH_take (i := 7) (v := .int .i64 e) rfl (by kernel_rfl) (by kernel_rfl) (by kernel_rfl) (fun _ _ _ h => h) (Or.inl ⟨by rfl, fun w hSw => ?_⟩) hHeld ?_
                    · first | rfl | rfl | go_simp
                    simp only [Act.put, List.setIfInBounds_toArray, List.set_cons_zero, List.set_cons_succ, List.getElem_toArray, List.getElem_cons_zero, List.getElem_cons_succ]
                    refine wpAnyH_take (i := 8) (v := .slice (cutAt R m cap) (e - m) (cap - m)) rfl (by kernel_rfl) (by kernel_rfl) (by kernel_rfl) (fun _ _ _ h => h) (Or.inl ⟨by rfl, fun w hSw => ?_⟩) hHeld ?_
                    · first | exact k2 w | rfl | go_simp
                    simp only [Act.put, List.setIfInBounds_toArray, List.set_cons_zero, List.set_cons_succ, List.getElem_toArray, List.getElem_cons_zero, List.getElem_cons_succ]
                    refine wpAnyH_take (i := 11) (v := .int .i64 0) rfl (by kernel_rfl) (by kernel_rfl) (by kernel_rfl) (fun _ _ _ h => h) (Or.inl ⟨by rfl, fun w hSw => ?_⟩) hHeld ?_
                    · first | rfl | rfl | go_simp
                    simp only [Act.put, List.setIfInBounds_toArray, List.set_cons_zero, List.set_cons_succ, List.getElem_toArray, List.getElem_cons_zero, List.getElem_cons_succ]
                    refine wpAnyH_ready (rs := [9]) (by kernel_rfl) (by simp) ?_
                    refine AllReadyH.cons rfl (fun K' hK' => ?_) AllReadyH.nil
                    clear k1 k2
                    go_simp
                    refine hmg.mono ?_
                    clear hmg
                    rintro en w2 ⟨⟨vm, mm, rfl, hml, hmr, hown⟩, hI4, hF4⟩
                    have hmm : mm.length = e - f := by omega
                    rw [← hml] at hown
                    obtain ⟨gm, cm, um, rfl, hgm, hcm, hbm, hum⟩ := owns_block hown (by omega)
                    refine hK'.out _ _ trivial (fun hHeld2 => ?_)
                    have HI4 : Hid (SInv w w2 (w.heap.size + 1) (w.heap.size + 1 + 1) (.slice ga k cp) (q2 ++ a) r.isNone) := hI4
                    have HO4 : Hid (w2.ownsRow Bn 3 1 nx (N.length + 0) (ints (N ++ mm.take 0))) := by
                      show w2.ownsRow Bn 3 1 nx (N.length + 0) (ints (N ++ mm.take 0))
                      rw [Nat.add_zero, List.take_zero, List.append_nil]
                      exact hF4.owns HO3.out.drew hSB
                    have HD4 : Hid (w2.heap[w.heap.size]? = some zeroD) := hF4.keep HD3.out (by omega) (by decide)
                    have HR4 : Hid (w2.heap[R]? = some (.cells cur 3 (0, 0))) := hF4.keep HR3.out (by omega) (by decide)
                    have hB4 : Bn ≤ w2.heap.size := Nat.le_trans hB hF4.size
                    have Hn4 : Hid (nx.ownBlock ≠ some gm) := fun e => absurd (Nat.lt_of_lt_of_le (owns_lt HO3.out e) hgm) (Nat.lt_irrefl _)
                    have HM4 : Hid _ := hbm
                    have Hum : Hid _ := hum
                    have HNy : Hid (InSt M k s (f + 2 * s) o (N ++ mm) (q2 ++ a) U r.isNone) := HNx.out mm hmr hml
                    have hlen : N.length + mm.length ≤ k := by omega
                    have Hml : Hid _ := hml
                    have HNf : Hid _ := hNf
                    have hq4 : (q2 ++ a).length ≤ 1000 * s + (f + 2 * s) := by simp; omega
                    clear hI4 hF4 hbm hum hmr hown HI3 HO3 HD3 HR3 HNx f1 hgm hml hNf hmm
                    refine wpAnyH_take (i := 10) (v := .int .i64 mm.length) rfl (by kernel_rfl) (by kernel_rfl) (by kernel_rfl) (fun _ _ _ h => h) (Or.inl ⟨by rfl, fun w hSw => ?_⟩) hHeld2 ?_
                    · first | rfl | go_simp
                    simp only [Act.put, List.setIfInBounds_toArray, List.set_cons_zero, List.set_cons_succ, List.getElem_toArray, List.getElem_cons_zero, List.getElem_cons_succ]
                    refine wpAnyH_done (by kernel_rfl) ?_ _
                    go_wp2
                    go_loopw [8, 86] (fun nx kk wr => CyRel w (w.heap.size + 1) w.heap.size R Bn gm cur um (.slice ga k cp) (q2 ++ a) r.isNone N mm nx kk wr) (fun _ t _ => mm.length - (intOf t).toNat)
                    case atStart => exact ⟨0, nx, Nat.zero_le _, rfl, rfl, hB4, HI4, HO4, HD4, HR4, HM4, Hn4⟩
                    case round =>
                      clear HI4 HO4 HD4 HR4 HM4 Hn4 hB4
                      obtain ⟨j, nx, hj, rfl, rfl, hBj, HI5, HO5, HD5, HR5, HM5, Hn5⟩ := hrel
                      by_cases hjl : j < mm.length
                      · obtain ⟨x, hx⟩ : ∃ x, mm[j]? = some x := ⟨_, List.getElem?_eq_getElem (by omega)⟩
                        have c1 : wr.cell? ⟨gm, j, none⟩ = some (.int .i64 x) := by simp [World.cell?, HM5.out, Hum.out j x hx]
                        have hgl : gm < wr.heap.size := lt_of_block HM5.out
                        have Hx : Hid (mm[j]? = some x) := hx
                        clear hx
                        go_wp2_with (at_builtin; refine wpList_append_lies _ (by rfl) (.tmp 90) (.tmp 92) 25 (by rfl) Bn 3 i0 (.int .i64 0) 1 8 Tryd.underlying25 hi hz0 hz1 hz2 (by rfl) (by omega) nx (N.length + j) (ints (N ++ mm.take j)) (by rfl) (HO5.out.alloc _) ⟨wr.heap.size, 0, none⟩ 1 1 [.int .i64 x] (by rfl) (by rfl) (World.news_of_block (heap_alloc_new wr _)) (by intro u hu; simp at hu; subst hu; rfl) (by omega) (by unfold maxLen; omega) (by omega) (by simp; omega) (wr.heap.size + 1) (by simp) ?_; intro g cap2 w3 hown3 hgrow3 hat hlt3)
                        have HI6 : Hid (SInv w w3 (w.heap.size + 1) (w.heap.size + 1 + 1) (.slice ga k cp) (q2 ++ a) r.isNone) := (HI5.out.alloc _).grown (HO5.out.alloc _) hSB hgrow3
                        have HO6 : Hid (w3.ownsRow Bn 3 1 (.slice (some ⟨g, 0, none⟩) (N.length + j + 1) cap2) (N.length + (j + 1)) (ints (N ++ mm.take (j + 1)))) := by
                          show w3.ownsRow Bn 3 1 _ (N.length + (j + 1)) (ints (N ++ mm.take (j + 1)))
                          rw [take_snoc Hx.out, ← List.append_assoc, ints_snoc]; exact hown3
                        have HD6 : Hid (w3.heap[w.heap.size]? = some zeroD) := grown_keep (HO5.out.alloc _) hgrow3 (alloc_keep _ HD5.out) (by omega)
                        have HR6 : Hid (w3.heap[R]? = some (.cells cur 3 (0, 0))) := grown_keep (HO5.out.alloc _) hgrow3 (alloc_keep _ HR5.out) (by omega)
                        have HM6 : Hid (w3.heap[gm]? = some (.cells um 3 (0, 0))) := grown_keep' hgrow3 (alloc_keep _ HM5.out) Hn5.out
                        have Hn6 : Hid ((Value.slice (some ⟨g, 0, none⟩) (N.length + j + 1) cap2).ownBlock ≠ some gm) := by
                          intro e1
                          have e2 : g = gm := by simpa [Value.ownBlock] using e1
                          rcases hat with h | h
                          · exact Hn5.out (by rw [h, e2])
                          · omega
                        have hB6 : Bn ≤ w3.heap.size := by have := hgrow3.size; simp at this; omega
                        clear hown3 hgrow3 hat hlt3
                        go_roundw
                        case rel => exact ⟨j + 1, _, by omega, rfl, by go_num, hB6, HI6, HO6, HD6, HR6, HM6, Hn6⟩
                        case measure => simp [intOf]; omega
                      · obtain rfl : j = mm.length := by omega
                        have HO6 : Hid (wr.ownsRow Bn 3 1 nx (N ++ mm).length (ints (N ++ mm))) := by
                          show wr.ownsRow Bn 3 1 nx (N ++ mm).length (ints (N ++ mm))
                          have := HO5.out
                          rw [List.take_of_length_le (Nat.le_refl _)] at this
                          rw [List.length_append]; exact this
                        go_wp2
                        go_roundw
                        case rel => exact ⟨f + 2 * s, q2 ++ a, N ++ mm, nx, r.isNone, by omega, hq4, rfl, by go_num, by simp; omega, hBj, HI5, HO6, HD5, HR5, HNy⟩
                        case measure => simp [intOf]; omega
              · have HX : Hid (OutSt M k (2 * s) N q2 V b) := outSt_next hs0 hlt2 hol HA2.out.1 HU.out HU3.out hgo
                have HO4 : Hid (wr.ownsRow (w.heap.size + 1 + 1) 3 1 nx N.length (ints N)) := owns_mono HO3.out (by omega)
                by_cases hfl : f < k
                · have hb : b = true := by
                    cases b
                    · exact absurd ⟨hfl, rfl⟩ hgo
                    · rfl
                  rw [hb] at f1
                  clear hgo hb
                  go_wp2
                  go_roundw
                  case rel => exact ⟨2 * s, q2, N, nx, b, by omega, by omega, by omega, rfl, by go_num, HI3, HO4, HD3, HX⟩
                  case measure => simp [intOf]; omega
                · clear hgo
                  go_wp2
                  go_roundw
                  case rel => exact ⟨2 * s, q2, N, nx, b, by omega, by omega, by omega, rfl, by go_num, HI3, HO4, HD3, HX⟩
                  case measure => simp [intOf]; omega
          · obtain ⟨v, hv, hown⟩ := HI2.out.st
            obtain ⟨ao, ac, rfl⟩ := owns_form hown
            obtain ⟨bo, bc, rfl⟩ := owns_form HO2.out
            have c1 : wr.cell? ⟨w.heap.size + 1, 1, none⟩ = some (.slice ao q.length ac) := by simp [World.cell?, hv]
            have hD : wr.heap[w.heap.size]? = some (.cells #[.int .i64 0, .slice none 0 0, .slice none 0 0] 28 (0, 0)) := HD2.out
            have d0 : wr.cell? ⟨w.heap.size, 0, none⟩ = some (.int .i64 0) := by simp [World.cell?, hD]
            have d1 : wr.cell? ⟨w.heap.size, 1, none⟩ = some (.slice none 0 0) := by simp [World.cell?, hD]
            have d2 : wr.cell? ⟨w.heap.size, 2, none⟩ = some (.slice none 0 0) := by simp [World.cell?, hD]
            have f0 : ∀ i, wr.frozen? ⟨w.heap.size, i, none⟩ = false := fun i => by simp [World.frozen?, hD]
            have HD : Hid _ := hD
            cases b
            · have hsk : ¬ s < k := fun h => hgo ⟨h, rfl⟩
              have HA2 : Hid (all M k s o q = V ∧ o.length = k ∧ ∀ z ∈ o, z < k) := HU2.out
              have HV2 : Hid (sorted M k = (q, some o)) := HV.out.trans (HA2.out.1.symm.trans (all_no hsk))
              have hR : Hid (SortRes w wr (.slice bo o.length bc) (.slice ao q.length ac) o q) := ⟨HI2.out.bel, owns_mono HO2.out (by omega), owns_mono hown (by omega)⟩
              clear hgo hv hown HO2 hD HA2 HU2
              go_wp2
              obtain ⟨hR2, hD2⟩ := hR.out.laid HD.out (Nat.le_refl _) (.int .i64 0) (.slice bo o.length bc) (.slice ao q.length ac)
              have q0 := fun i => cell_at_block hD2 i
              refine bodyPost_ret (v := .agg #[.int .i64 0, .slice bo o.length bc, .slice ao q.length ac]) (by simp [results, Tryd.results8, go_sem, q0]) rfl ⟨0, o, q, _, _, Or.inr (Or.inl ⟨HS.out, HV2.out, rfl⟩), rfl, hR2⟩
            · have HV2 : Hid (sorted M k = (q, none)) := HV.out.trans HU2.out
              have hR : Hid (SortRes w wr (.slice none 0 0) (.slice ao q.length ac) [] q) := ⟨HI2.out.bel, World.ownsRow_nil _ _ _ _, owns_mono hown (by omega)⟩
              clear hgo hv hown HO2 hD HU2
              by_cases hsk : s < k
              all_goals
                go_wp2
                obtain ⟨hR2, hD2⟩ := hR.out.laid HD.out (Nat.le_refl _) (.int .i64 2) (.slice none 0 0) (.slice ao q.length ac)
                have q0 := fun i => cell_at_block hD2 i
                refine bodyPost_ret (v := .agg #[.int .i64 2, .slice none 0 0, .slice ao q.length ac]) (by simp [results, Tryd.results8, go_sem, q0]) rfl ⟨2, [], q, _, _, Or.inr (Or.inr ⟨HS.out, HV2.out, rfl, rfl⟩), rfl, hR2⟩

end Go.Proofs.YtgflalfiopnmnaaDoor
