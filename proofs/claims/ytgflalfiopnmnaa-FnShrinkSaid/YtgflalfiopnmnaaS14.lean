import Derived.Test.YtgflalfiopnmnaaS6
import Derived.Test.YtgflalfiopnmnaaS13
/-
  Two graphs side by side: the keys in order, and what fits.
-/
namespace Go.Proofs.Ytgflalfiopnmnaa.Aw
open Vl

theorem lt_trans {a b c : V} (h : less a b = true) (k : less b c = true) : less a c = true := by
  cases e : less a c with
  | true => rfl
  | false =>
    have := le_trans e (less_asymm h)
    rw [k] at this
    cases this
theorem lt_irrefl (a : V) : less a a = false := by
  cases e : less a a with
  | false => rfl
  | true => have := less_asymm e; rw [e] at this; cases this

/-- Keys in order, each once. -/
def ins (k : V) : List V → List V
  | [] => [k]
  | x :: xs => if less k x = true then k :: x :: xs else if eqV k x = true then x :: xs else x :: ins k xs
def kidsOf (ks : List V) : List V := ks.foldr ins []
def Strict (l : List V) : Prop := l.Pairwise fun a b => less a b = true

theorem mem_ins (k : V) : ∀ (l : List V) (x : V), x ∈ ins k l ↔ x = k ∨ x ∈ l
  | [], x => by simp [ins]
  | y :: ys, x => by
    unfold ins
    split
    · simp
    · split
      · rename_i h
        have : k = y := eqV_iff.1 h
        simp [this]
      · simp only [List.mem_cons, mem_ins k ys x]
        constructor
        · rintro (h | h | h)
          · exact Or.inr (Or.inl h)
          · exact Or.inl h
          · exact Or.inr (Or.inr h)
        · rintro (h | h | h)
          · exact Or.inr (Or.inl h)
          · exact Or.inl h
          · exact Or.inr (Or.inr h)
theorem ins_len (k : V) : ∀ (l : List V), (ins k l).length ≤ l.length + 1
  | [] => by simp [ins]
  | y :: ys => by
    unfold ins
    split
    · simp
    · split
      · simp
      · have := ins_len k ys
        simp only [List.length_cons]
        omega
theorem ins_strict {k : V} (hk : isK k = true) : ∀ (l : List V), (∀ x ∈ l, isK x = true) → Strict l → Strict (ins k l)
  | [], _, _ => by simp [ins, Strict]
  | y :: ys, ha, h => by
    obtain ⟨h1, h2⟩ := List.pairwise_cons.1 h
    unfold ins
    split
    · rename_i hl
      refine List.pairwise_cons.2 ⟨fun z hz => ?_, h⟩
      rcases List.mem_cons.1 hz with rfl | hz
      · exact hl
      · exact lt_trans hl (h1 z hz)
    · split
      · exact h
      · rename_i hl he
        refine List.pairwise_cons.2 ⟨fun z hz => ?_, ins_strict hk ys (fun x hx => ha x (by simp [hx])) h2⟩
        rcases (mem_ins k ys z).1 hz with rfl | hz
        · cases e : less y z with
          | true => rfl
          | false => exact absurd (eqV_iff.2 (key_one hk (ha y (by simp)) ((Bool.not_eq_true _).mp hl) e)) he
        · exact h1 z hz
theorem mem_kidsOf : ∀ (ks : List V) (x : V), x ∈ kidsOf ks ↔ x ∈ ks
  | [], x => by simp [kidsOf]
  | k :: ks, x => by
    have := mem_kidsOf ks x
    unfold kidsOf at this ⊢
    rw [List.foldr_cons, mem_ins, this]
    simp
theorem kidsOf_len : ∀ (ks : List V), (kidsOf ks).length ≤ ks.length
  | [] => by simp [kidsOf]
  | k :: ks => by
    have := kidsOf_len ks
    have h2 := ins_len k (kidsOf ks)
    unfold kidsOf at this h2 ⊢
    rw [List.foldr_cons]
    simp only [List.length_cons]
    omega
theorem kidsOf_strict : ∀ (ks : List V), (∀ k ∈ ks, isK k = true) → Strict (kidsOf ks)
  | [], _ => by simp [kidsOf, Strict]
  | k :: ks, h => by
    have := kidsOf_strict ks (fun x hx => h x (by simp [hx]))
    refine ins_strict (h k (by simp)) _ (fun x hx => ?_) this
    exact h x (by rw [List.mem_cons]; exact Or.inr ((mem_kidsOf ks x).1 hx))
/-- Keys in order, each once, are one row. -/
theorem strict_one : ∀ {l m : List V}, Strict l → Strict m → (∀ x, x ∈ l ↔ x ∈ m) → l = m
  | [], [], _, _, _ => rfl
  | [], b :: m, _, _, h => by have := (h b).2 (by simp); cases this
  | a :: l, [], _, _, h => by have := (h a).1 (by simp); cases this
  | a :: l, b :: m, h1, h2, h => by
    obtain ⟨p1, p2⟩ := List.pairwise_cons.1 h1
    obtain ⟨q1, q2⟩ := List.pairwise_cons.1 h2
    have e : a = b := by
      by_cases e : a = b
      · exact e
      · have ha : a ∈ m := by
          rcases List.mem_cons.1 ((h a).1 (by simp)) with h | h
          · exact absurd h e
          · exact h
        have hb : b ∈ l := by
          rcases List.mem_cons.1 ((h b).2 (by simp)) with h | h
          · exact absurd h.symm e
          · exact h
        have := less_asymm (p1 b hb)
        rw [q1 a ha] at this
        cases this
    subst e
    rw [strict_one p2 q2 (fun x => ?_)]
    constructor
    · intro hx
      rcases List.mem_cons.1 ((h x).1 (by simp [hx])) with h' | h'
      · have := p1 x hx; rw [h', lt_irrefl] at this; cases this
      · exact h'
    · intro hx
      rcases List.mem_cons.1 ((h x).2 (by simp [hx])) with h' | h'
      · have := q1 x hx; rw [h', lt_irrefl] at this; cases this
      · exact h'

theorem mem_keys {K : Nat → V} {c : Nat} {k : V} : k ∈ keys K c ↔ ∃ j, j < c ∧ K j = k := by simp [keys]
theorem atKey_at {n L : Nat} {K X : Nat → V} (h : OkT n L K X) {c : Nat} (hc : c < L) : atKey L K X (K c) = X c :=
  atKey_hit hc (eqV_iff.2 rfl) (fun i hi => (h.all c hc).once i hi)
theorem atKey_no {L : Nat} {K X : Nat → V} {k : V} (h : k ∉ keys K L) : atKey L K X k = zeroV :=
  atKey_none (fun j hj => by
    cases e : eqV (K j) k with
    | false => rfl
    | true => exact absurd (mem_keys.2 ⟨j, hj, eqV_iff.1 e⟩) h)
theorem perm_at {L : Nat} {K : Nat → V} {ls : List Nat} (h : SortI K L ls) {c : Nat} (hc : c < L) : ∃ q, q < L ∧ ls.getD q 0 = c := by
  obtain ⟨q, hq, e⟩ := List.mem_iff_getElem.1 (h.perm.symm.subset (List.mem_range.2 hc))
  exact ⟨q, by rw [← h.len]; exact hq, by rw [List.getD_eq_getElem?_getD, List.getElem?_eq_getElem hq]; exact e⟩

/-- Two graphs, and the classes of their tables side by side. -/
def sysOf (n : Nat) (L : Nat → Nat) (K X : Nat → Nat → V) (L' : Nat → Nat) (K' X' : Nat → Nat → V) (f : Nat → Nat) : Sys where
  tab v := v.k == 4
  atA x k := atKey (L x.a.toNat) (K x.a.toNat) (X x.a.toNat) k
  atB y k := atKey (L' y.a.toNat) (K' y.a.toNat) (X' y.a.toNat) k
  kids x y := kidsOf (keys (K x.a.toNat) (L x.a.toNat) ++ keys (K' y.a.toNat) (L' y.a.toNat))
  D x y := !(f x.a.toNat == f (n + y.a.toNat))
def goodV (n m : Nat) (x y : V) : Prop := isV n x = true ∧ isV m y = true

theorem tab_one {n : Nat} {x y : V} (hx : isV n x = true) (hy : isV n y = true) (h : x.k = 4) (h' : y.k = 4) (e : x.a.toNat = y.a.toNat) : x = y := by
  obtain ⟨a0, a1⟩ := isV_tab hx h
  obtain ⟨b0, b1⟩ := isV_tab hy h'
  unfold isV at hx hy
  rw [if_neg (by omega), if_neg (by omega), if_neg (by omega), if_neg (by omega), if_pos h] at hx
  rw [if_neg (by omega), if_neg (by omega), if_neg (by omega), if_neg (by omega), if_pos h'] at hy
  simp only [Bool.and_eq_true, beq_iff_eq, decide_eq_true_eq] at hx hy
  apply eqV_iff.1
  simp only [eqV, Bool.and_eq_true, beq_iff_eq]
  refine ⟨by omega, by omega, by rw [hx.2.1, hy.2.1], by omega⟩

theorem sys_ix (n m : Nat) (L : Nat → Nat) (K X : Nat → Nat → V) (L' : Nat → Nat) (K' X' : Nat → Nat → V) (f : Nat → Nat) : Ix (sysOf n L K X L' K' X' f) (goodV n m) (fun x y => x.a.toNat * m + y.a.toNat) (n * m) := by
  refine ⟨fun x y hg hx hy => ?_, fun x y x' y' hg hx hy hg' hx' hy' e => ?_⟩
  · have hx : x.k = 4 := by simpa [sysOf] using hx
    have hy : y.k = 4 := by simpa [sysOf] using hy
    obtain ⟨a0, a1⟩ := isV_tab hg.1 hx
    obtain ⟨b0, b1⟩ := isV_tab hg.2 hy
    have h1 : x.a.toNat + 1 ≤ n := by omega
    have h2 : (x.a.toNat + 1) * m ≤ n * m := Nat.mul_le_mul_right _ h1
    rw [Nat.add_mul] at h2
    show x.a.toNat * m + y.a.toNat < n * m
    omega
  · have hx : x.k = 4 := by simpa [sysOf] using hx
    have hy : y.k = 4 := by simpa [sysOf] using hy
    have hx' : x'.k = 4 := by simpa [sysOf] using hx'
    have hy' : y'.k = 4 := by simpa [sysOf] using hy'
    obtain ⟨b0, b1⟩ := isV_tab hg.2 hy
    obtain ⟨c0, c1⟩ := isV_tab hg'.2 hy'
    have e : x.a.toNat * m + y.a.toNat = x'.a.toNat * m + y'.a.toNat := e
    have h1 : y.a.toNat = y'.a.toNat := by
      have h := congrArg (· % m) e
      simp only [Nat.mul_add_mod_self_right] at h
      rw [Nat.mod_eq_of_lt (by omega), Nat.mod_eq_of_lt (by omega)] at h
      exact h
    have h2 : x.a.toNat = x'.a.toNat := by
      rw [h1] at e
      exact Nat.eq_of_mul_eq_mul_right (show 0 < m by omega) (Nat.add_right_cancel e)
    exact ⟨tab_one hg.1 hg'.1 hx hx' h2, tab_one hg.2 hg'.2 hy hy' h1⟩

theorem sys_few {n m : Nat} {u u' : V} {L : Nat → Nat} {K X : Nat → Nat → V} {L' : Nat → Nat} {K' X' : Nat → Nat → V} {f : Nat → Nat} (h : OkG n u L K X) (h' : OkG m u' L' K' X') : ∀ x y, goodV n m x y → (sysOf n L K X L' K' X' f).tab x = true → (sysOf n L K X L' K' X' f).tab y = true → ((sysOf n L K X L' K' X' f).kids x y).length ≤ 200 := by
  intro x y hg hx hy
  have hx : x.k = 4 := by simpa [sysOf] using hx
  have hy : y.k = 4 := by simpa [sysOf] using hy
  obtain ⟨a0, a1⟩ := isV_tab hg.1 hx
  obtain ⟨b0, b1⟩ := isV_tab hg.2 hy
  have h1 := (h.all x.a.toNat (by omega)).len
  have h2 := (h'.all y.a.toNat (by omega)).len
  have h3 := kidsOf_len (keys (K x.a.toNat) (L x.a.toNat) ++ keys (K' y.a.toNat) (L' y.a.toNat))
  rw [List.length_append, keys_len, keys_len] at h3
  show (kidsOf _).length ≤ 200
  omega

theorem sys_next {n m : Nat} {u u' : V} {L : Nat → Nat} {K X : Nat → Nat → V} {L' : Nat → Nat} {K' X' : Nat → Nat → V} {f : Nat → Nat} (h : OkG n u L K X) (h' : OkG m u' L' K' X') : Nexts (sysOf n L K X L' K' X' f) (goodV n m) := fun x y hg hx hy k _ => by
  have hx : x.k = 4 := by simpa [sysOf] using hx
  have hy : y.k = 4 := by simpa [sysOf] using hy
  obtain ⟨a0, a1⟩ := isV_tab hg.1 hx
  obtain ⟨b0, b1⟩ := isV_tab hg.2 hy
  exact ⟨isV_at (h.all x.a.toNat (by omega)) k, isV_at (h'.all y.a.toNat (by omega)) k⟩

theorem sys_fits {n m : Nat} {u u' : V} {L : Nat → Nat} {K X : Nat → Nat → V} {L' : Nat → Nat} {K' X' : Nat → Nat → V} {f : Nat → Nat} (h : OkG n u L K X) (h' : OkG m u' L' K' X') (hc : ClsAre (n + m) (jn n L L') (jn n K K') (jn n X (fun j c => sh n (X' j c))) f) : Fits (sysOf n L K X L' K' X' f) (goodV n m) := by
  refine ⟨fun x y hg hx hy k hk => ?_, fun x y hg hx hy hD k hk => ?_⟩
  · have hx : x.k = 4 := by simpa [sysOf] using hx
    have hy : y.k = 4 := by simpa [sysOf] using hy
    obtain ⟨a0, a1⟩ := isV_tab hg.1 hx
    obtain ⟨b0, b1⟩ := isV_tab hg.2 hy
    exact ⟨isV_at (h.all x.a.toNat (by omega)) k, isV_at (h'.all y.a.toNat (by omega)) k⟩
  · have hx : x.k = 4 := by simpa [sysOf] using hx
    have hy : y.k = 4 := by simpa [sysOf] using hy
    have hD : f x.a.toNat = f (n + y.a.toNat) := by simpa [sysOf] using hD
    obtain ⟨a0, a1⟩ := isV_tab hg.1 hx
    obtain ⟨b0, b1⟩ := isV_tab hg.2 hy
    obtain ⟨i, hi⟩ : ∃ i, x.a.toNat = i := ⟨_, rfl⟩
    obtain ⟨j, hj⟩ : ∃ j, y.a.toNat = j := ⟨_, rfl⟩
    have hin : i < n := by omega
    have hjm : j < m := by omega
    have hk : k ∈ kidsOf (keys (K i) (L i) ++ keys (K' j) (L' j)) := by rw [← hi, ← hj]; exact hk
    rw [mem_kidsOf, List.mem_append] at hk
    show (((atKey (L x.a.toNat) (K x.a.toNat) (X x.a.toNat) k).k == 4) = true ∧ ((atKey (L' y.a.toNat) (K' y.a.toNat) (X' y.a.toNat) k).k == 4) = true ∧ (!(f (atKey (L x.a.toNat) (K x.a.toNat) (X x.a.toNat) k).a.toNat == f (n + (atKey (L' y.a.toNat) (K' y.a.toNat) (X' y.a.toNat) k).a.toNat))) = false) ∨ (¬ (((atKey (L x.a.toNat) (K x.a.toNat) (X x.a.toNat) k).k == 4) = true ∧ ((atKey (L' y.a.toNat) (K' y.a.toNat) (X' y.a.toNat) k).k == 4) = true) ∧ atKey (L x.a.toNat) (K x.a.toNat) (X x.a.toNat) k = atKey (L' y.a.toNat) (K' y.a.toNat) (X' y.a.toNat) k)
    rw [hi, hj] at hD ⊢
    obtain ⟨ls, hs, hcls⟩ := hc
    have hlk := hcls.bis i (n + j) (by omega) (by omega) hD
    have s1 := hs i (by omega)
    have s2 := hs (n + j) (by omega)
    have hlen := hlk.len
    have hall := hlk.all
    unfold sK at hall
    rw [jn_lt hin, jn_lt hin] at s1
    rw [jn_add, jn_add] at s2
    rw [jn_lt hin, jn_add] at hlen
    rw [jn_lt hin, jn_lt hin, jn_lt hin, jn_add, jn_add] at hall
    have o1 := h.all i hin
    have o2 := h'.all j hjm
    have key : ∃ q, q < L i ∧ K i ((ls i).getD q 0) = k := by
      rcases hk with hk | hk
      · obtain ⟨c, hc, rfl⟩ := mem_keys.1 hk
        obtain ⟨q, hq, e⟩ := perm_at s1 hc
        exact ⟨q, hq, by rw [e]⟩
      · obtain ⟨c, hc, rfl⟩ := mem_keys.1 hk
        obtain ⟨q, hq, e⟩ := perm_at s2 hc
        exact ⟨q, by omega, by rw [← e]; exact (hall q (by omega)).1⟩
    obtain ⟨q, hq, rfl⟩ := key
    obtain ⟨e1, e2⟩ := hall q hq
    have e1 : K i ((ls i).getD q 0) = K' j ((ls (n + j)).getD q 0) := e1
    have e2 : alike f (X i ((ls i).getD q 0)) (sh n (X' j ((ls (n + j)).getD q 0))) = true := e2
    have r1 : atKey (L i) (K i) (X i) (K i ((ls i).getD q 0)) = X i ((ls i).getD q 0) := atKey_at o1 (s1.lt hq)
    have r2 : atKey (L' j) (K' j) (X' j) (K i ((ls i).getD q 0)) = X' j ((ls (n + j)).getD q 0) := by rw [e1]; exact atKey_at o2 (s2.lt (by omega))
    have v2 := (o2.all _ (s2.lt (i := q) (by omega))).val
    rw [r1, r2]
    obtain ⟨b1', b2', b3'⟩ := alike_iff.1 e2
    rw [sh_k] at b1'
    by_cases h4 : (X i ((ls i).getD q 0)).k = 4
    · left
      have h4' := b1'.symm.trans h4
      obtain ⟨c0, c1⟩ := isV_tab v2 h4'
      refine ⟨by simpa using h4, by simpa using h4', ?_⟩
      have := b2' h4
      unfold sh at this
      rw [if_pos h4'] at this
      simp only [Bool.not_eq_false', beq_iff_eq]
      rw [this]
      congr 1
      simp only
      omega
    · right
      refine ⟨fun e => h4 (beq_iff_eq.1 e.1), ?_⟩
      have := b3' h4
      unfold sh at this
      rw [if_neg (by rw [← b1']; exact h4)] at this
      exact this

/-- Where no key parts two tables, the keys of the first are those of both. -/
theorem order_kids {n m : Nat} {L L' : Nat} {K X K' X' : Nat → V} {ls : List Nat} (h : OkT n L K X) (h' : OkT m L' K' X') (hs : SortI K L ls) (hno : ∀ k ∈ kidsOf (keys K L ++ keys K' L'), ¬ (¬ ((atKey L K X k).k = 4 ∧ (atKey L' K' X' k).k = 4) ∧ atKey L K X k ≠ atKey L' K' X' k)) : keys (byI K ls) L = kidsOf (keys K L ++ keys K' L') := by
  have hk : ∀ k ∈ keys K L ++ keys K' L', isK k = true := fun k hk => by
    rcases List.mem_append.1 hk with hk | hk
    · obtain ⟨c, hc, rfl⟩ := mem_keys.1 hk; exact (h.all c hc).key
    · obtain ⟨c, hc, rfl⟩ := mem_keys.1 hk; exact (h'.all c hc).key
  refine strict_one ?_ (kidsOf_strict _ hk) (fun x => ?_)
  · unfold Strict keys
    rw [List.pairwise_map]
    rw [List.pairwise_iff_getElem]
    intro a b ha hb hab
    simp only [List.getElem_range]
    simp only [List.length_range] at ha hb
    have hsw := hs.sort
    unfold SortW at hsw
    rw [List.pairwise_iff_getElem] at hsw
    have hl := hs.len
    have h1 := hsw a b (by omega) (by omega) hab
    have ga : ls.getD a 0 = ls[a] := by rw [List.getD_eq_getElem?_getD, List.getElem?_eq_getElem (by omega)]; rfl
    have gb : ls.getD b 0 = ls[b] := by rw [List.getD_eq_getElem?_getD, List.getElem?_eq_getElem (by omega)]; rfl
    rw [← ga, ← gb] at h1
    have hne := SortI.ne hs hab hb
    show less (K (ls.getD a 0)) (K (ls.getD b 0)) = true
    cases e : less (K (ls.getD a 0)) (K (ls.getD b 0)) with
    | true => rfl
    | false => exact absurd (key_one (h.all _ (hs.lt ha)).key (h.all _ (hs.lt hb)).key e h1) (Vl.OkT.once h (hs.lt ha) (hs.lt hb) hne)
  · rw [mem_kidsOf, List.mem_append]
    constructor
    · intro hx
      obtain ⟨c, hc, rfl⟩ := mem_keys.1 hx
      exact Or.inl (mem_keys.2 ⟨_, hs.lt hc, rfl⟩)
    · intro hx
      have hin : x ∈ keys K L := by
        rcases hx with hx | hx
        · exact hx
        · by_cases hh : x ∈ keys K L
          · exact hh
          · exfalso
            obtain ⟨c, hc, rfl⟩ := mem_keys.1 hx
            have hz := atKey_no (X := X) hh
            have hv : atKey L' K' X' (K' c) = X' c := atKey_at h' hc
            refine hno (K' c) ((mem_kidsOf _ _).2 (List.mem_append.2 (Or.inr hx))) ?_
            rw [hz, hv]
            refine ⟨fun e => by have := e.1; simp [zeroV] at this, fun e => (h'.all c hc).some ?_⟩
            rw [← e]
            rfl
      obtain ⟨c, hc, rfl⟩ := mem_keys.1 hin
      obtain ⟨q, hq, e⟩ := perm_at hs hc
      exact mem_keys.2 ⟨q, hq, by unfold byI; rw [e]⟩

theorem split_at {P : V → Prop} {ks : List V} {k : V} (hs : Strict (kidsOf ks)) (hk : k ∈ ks) (hmin : ∀ x ∈ ks, P x → less x k = false) : ∃ pre post, kidsOf ks = pre ++ k :: post ∧ ∀ x ∈ pre, ¬ P x := by
  obtain ⟨pre, post, e⟩ := List.append_of_mem ((mem_kidsOf ks k).2 hk)
  refine ⟨pre, post, e, fun x hx hp => ?_⟩
  rw [e] at hs
  have h1 := (List.pairwise_append.1 hs).2.2 x hx k (by simp)
  have h2 := hmin x ((mem_kidsOf ks x).1 (by rw [e]; simp [hx])) hp
  rw [h1] at h2
  cases h2

theorem atKey_sh (N L : Nat) (K X : Nat → V) (k : V) : atKey L K (fun c => sh N (X c)) k = sh N (atKey L K X k) := by
  unfold atKey
  cases (List.range L).find? (fun j => eqV (K j) k) with
  | none => simp [sh, zeroV]
  | some j => rfl

end Go.Proofs.Ytgflalfiopnmnaa.Aw

/-
  The end of the way: two graphs that are not the same part there. No Go in sight.
-/
namespace Go.Proofs.Ytgflalfiopnmnaa.Aw
open Vl

theorem ifold_pre {S : Sys} (e : E) : ∀ (ks : List V) (q : List E), ∃ t, ks.foldl (fun l k => S.iadd l (S.child e k)) q = q ++ t ∧ (∀ c ∈ t, ∃ k ∈ ks, c = S.child e k) ∧ ∀ k ∈ ks, S.live (S.child e k) = true → (q ++ t).any (same (S.child e k)) = true
  | [], q => ⟨[], by simp, by simp, by simp⟩
  | k :: ks, q => by
    obtain ⟨s, hs, hs2, hs3⟩ : ∃ s, S.iadd q (S.child e k) = q ++ s ∧ (∀ c ∈ s, c = S.child e k) ∧ (S.live (S.child e k) = true → (q ++ s).any (same (S.child e k)) = true) := by
      unfold Sys.iadd
      split
      · refine ⟨[S.child e k], rfl, fun c hc => by simpa using hc, fun _ => ?_⟩
        rw [List.any_append]
        simp [same, eqV_refl]
      · rename_i h
        refine ⟨[], by simp, by simp, fun hl => ?_⟩
        rw [List.append_nil]
        unfold Sys.live at hl
        rw [hl] at h
        simpa using h
    obtain ⟨t, ht, h2, h3⟩ := ifold_pre e ks (q ++ s)
    refine ⟨s ++ t, ?_, ?_, ?_⟩
    · rw [List.foldl_cons, hs, ht, List.append_assoc]
    · intro c hc
      rcases List.mem_append.1 hc with hc | hc
      · exact ⟨k, by simp, hs2 c hc⟩
      · obtain ⟨k', hk', e'⟩ := h2 c hc
        exact ⟨k', by simp [hk'], e'⟩
    · intro k' hk' hl
      rw [← List.append_assoc]
      rcases List.mem_cons.1 hk' with rfl | hk'
      · rw [List.any_append, hs3 hl]; rfl
      · exact h3 k' hk' hl

theorem igrow_pre {S : Sys} (q : List E) (e : E) : ∃ t, S.igrow q e = q ++ t ∧ (∀ c ∈ t, ∃ k ∈ S.kids e.a e.b, c = S.child e k) ∧ ∀ k ∈ S.kids e.a e.b, S.live (S.child e k) = true → (q ++ t).any (same (S.child e k)) = true := ifold_pre e _ q

theorem IReach.seen {S : Sys} {r : E} {j : Nat} {q : List E} (h : IReach S r j q) : ∀ i, i < j → ∃ e, q[i]? = some e ∧ ∀ k ∈ S.kids e.a e.b, S.part (S.child e k) = false ∧ (S.live (S.child e k) = true → q.any (same (S.child e k)) = true) := by
  induction h with
  | start => intro i hi; omega
  | @step j q e h1 h2 h3 ih =>
    obtain ⟨t, ht, _, t3⟩ := igrow_pre (S := S) q e
    rw [ht]
    intro i hi
    by_cases e' : i = j
    · subst e'
      refine ⟨e, ?_, fun k hk => ⟨h3 k hk, t3 k hk⟩⟩
      obtain ⟨hlt, _⟩ := List.getElem?_eq_some_iff.1 h2
      rw [List.getElem?_append_left hlt]
      exact h2
    · obtain ⟨x, hx, hk⟩ := ih i (by omega)
      obtain ⟨hlt, _⟩ := List.getElem?_eq_some_iff.1 hx
      refine ⟨x, by rw [List.getElem?_append_left hlt]; exact hx, fun k hk' => ⟨(hk k hk').1, fun hl => ?_⟩⟩
      rw [List.any_append, (hk k hk').2 hl]
      rfl

theorem IReach.closed {S : Sys} {r : E} {j : Nat} {q : List E} (h : IReach S r j q) (hj : q.length ≤ j) : ∀ e ∈ q, ∀ k ∈ S.kids e.a e.b, S.part (S.child e k) = false ∧ (S.live (S.child e k) = true → ∃ x ∈ q, x.a = S.atA e.a k ∧ x.b = S.atB e.b k) := by
  intro e he k hk
  obtain ⟨i, hi, e1⟩ := List.mem_iff_getElem.1 he
  obtain ⟨x, hx, hall⟩ := h.seen i (by omega)
  rw [List.getElem?_eq_getElem hi, e1] at hx
  obtain rfl := Option.some.inj hx
  refine ⟨(hall k hk).1, fun hl => ?_⟩
  obtain ⟨x, hx, hs⟩ := List.any_eq_true.1 ((hall k hk).2 hl)
  unfold same at hs
  rw [Bool.and_eq_true] at hs
  exact ⟨x, hx, eqV_iff.1 hs.1, eqV_iff.1 hs.2⟩

theorem IReach.first {S : Sys} {r : E} {j : Nat} {q : List E} (h : IReach S r j q) (hl : S.live r = true) : r ∈ q := by
  induction h with
  | start =>
    unfold Sys.iadd
    unfold Sys.live at hl
    rw [hl]
    simp
  | @step j q e h1 h2 h3 ih =>
    obtain ⟨t, ht, _, _⟩ := igrow_pre (S := S) q e
    rw [ht]
    exact List.mem_append.2 (Or.inl ih)

theorem IReach.dead {S : Sys} {r : E} {j : Nat} {q : List E} (h : IReach S r j q) (hl : S.live r = false) : q = [] := by
  induction h with
  | start =>
    unfold Sys.iadd
    unfold Sys.live at hl
    rw [hl]
    simp
  | @step j q e h1 h2 h3 ih =>
    rw [ih] at h2
    simp at h2

theorem IDone.dead {S : Sys} {r : E} {ans : List V} (h : IDone S r ans) (hl : S.live r = false) : ans = [] := by
  rcases h with ⟨j, q, e, pre, k, post, h1, h2, _⟩ | ⟨j, q, _, _, rfl⟩
  · rw [h1.dead hl] at h2
    simp at h2
  · rfl

section
variable {n m : Nat} {u u' : V} {L : Nat → Nat} {K X : Nat → Nat → V} {L' : Nat → Nat} {K' X' : Nat → Nat → V} {f : Nat → Nat}

theorem kidsOf_comm {xs ys : List V} (h : ∀ k ∈ xs ++ ys, isK k = true) : kidsOf (xs ++ ys) = kidsOf (ys ++ xs) := by
  refine strict_one (kidsOf_strict _ h) (kidsOf_strict _ (fun k hk => h k ?_)) (fun x => ?_)
  · rw [List.mem_append] at hk ⊢; exact hk.symm
  · rw [mem_kidsOf, mem_kidsOf, List.mem_append, List.mem_append]; exact Or.comm

/-- Two tables that no key parts, sorted: the same keys. -/
theorem keys_one {l l' : Nat} {k x k' x' : Nat → V} {ls ls' : List Nat} (h : OkT n l k x) (h' : OkT m l' k' x') (hs : SortI k l ls) (hs' : SortI k' l' ls') (hno : ∀ z ∈ kidsOf (keys k l ++ keys k' l'), ¬ (¬ ((atKey l k x z).k = 4 ∧ (atKey l' k' x' z).k = 4) ∧ atKey l k x z ≠ atKey l' k' x' z)) : l = l' ∧ ∀ c, c < l → byI k ls c = byI k' ls' c := by
  have hk : ∀ z ∈ keys k l ++ keys k' l', isK z = true := fun z hz => by
    rcases List.mem_append.1 hz with hz | hz
    · obtain ⟨c, hc, rfl⟩ := mem_keys.1 hz; exact (h.all c hc).key
    · obtain ⟨c, hc, rfl⟩ := mem_keys.1 hz; exact (h'.all c hc).key
  have e1 := order_kids h h' hs hno
  have e2 := order_kids h' h hs' (fun z hz hp => by
    rw [← kidsOf_comm hk] at hz
    exact hno z hz ⟨fun hh => hp.1 ⟨hh.2, hh.1⟩, fun hh => hp.2 hh.symm⟩)
  rw [← kidsOf_comm hk, ← e1] at e2
  have hl : l = l' := by
    have := congrArg List.length e2
    rw [keys_len, keys_len] at this
    exact this.symm
  subst hl
  refine ⟨rfl, fun c hc => ?_⟩
  have := congrArg (fun l => l[c]?) e2
  unfold keys at this
  simp only [List.getElem?_map, List.getElem?_range hc, Option.map_some] at this
  exact (Option.some.inj this).symm

/-- A way that ends nowhere: nothing stood in line. -/
theorem IReach.nobody (h : OkG n u L K X) (h' : OkG m u' L' K' X') (hc : ClsAre (n + m) (jn n L L') (jn n K K') (jn n X (fun j c => sh n (X' j c))) f) {j : Nat} {q : List E} (hI : IReach (sysOf n L K X L' K' X' f) ⟨u, u', []⟩ j q) (hj : q.length ≤ j) : q = [] := by
  have hW := hI.wide (sys_next h h') (sys_ix n m L K X L' K' X' f) (show goodV n m u u' from ⟨h.root, h'.root⟩) rfl
  have hcl := hI.closed hj
  obtain ⟨ls, hs, hcls⟩ := hc
  have hgood : Good (n + m) (jn n L L') (sK (jn n X (fun j c => sh n (X' j c))) ls) := fun r hr c hc => ((okT_join h h' r hr).all _ ((hs r hr).lt hc)).val
  have hbis : Bis (n + m) (jn n L L') (sK (jn n K K') ls) (sK (jn n X (fun j c => sh n (X' j c))) ls) (fun i j => (i < n + m ∧ j < n + m ∧ f i = f j) ∨ ∃ e ∈ q, i = e.a.a.toNat ∧ j = n + e.b.a.toNat) := by
    rintro i j (hij | ⟨e, he, rfl, rfl⟩)
    · obtain ⟨h1, h2, h3, h4⟩ := hcls.rel hgood i j hij
      exact ⟨h1, h2, h3, fun c hc => ⟨(h4 c hc).1, (h4 c hc).2.1, fun e => Or.inl ((h4 c hc).2.2.1 e), (h4 c hc).2.2.2⟩⟩
    · have hl := hW.live e he
      obtain ⟨g1, g2⟩ := hW.wide.good e he
      have t1 : e.a.k = 4 := by unfold Sys.live Sys.cp sysOf at hl; simp at hl; exact hl.1.1
      have t2 : e.b.k = 4 := by unfold Sys.live Sys.cp sysOf at hl; simp at hl; exact hl.1.2
      obtain ⟨a0, a1⟩ := isV_tab g1 t1
      obtain ⟨b0, b1⟩ := isV_tab g2 t2
      have hk := hcl e he
      obtain ⟨i, hi⟩ : ∃ i, e.a.a.toNat = i := ⟨_, rfl⟩
      obtain ⟨j, hj'⟩ : ∃ j, e.b.a.toNat = j := ⟨_, rfl⟩
      have hin : i < n := by omega
      have hjm : j < m := by omega
      have hk : ∀ k ∈ kidsOf (keys (K i) (L i) ++ keys (K' j) (L' j)), (sysOf n L K X L' K' X' f).part ⟨atKey (L i) (K i) (X i) k, atKey (L' j) (K' j) (X' j) k, e.p ++ [k]⟩ = false ∧ ((sysOf n L K X L' K' X' f).live ⟨atKey (L i) (K i) (X i) k, atKey (L' j) (K' j) (X' j) k, e.p ++ [k]⟩ = true → ∃ x ∈ q, x.a = atKey (L i) (K i) (X i) k ∧ x.b = atKey (L' j) (K' j) (X' j) k) := by
        subst hi hj'
        exact hk
      rw [hi, hj']
      have o1 := h.all i hin
      have o2 := h'.all j hjm
      have s1 := hs i (by omega)
      have s2 := hs (n + j) (by omega)
      rw [jn_lt hin, jn_lt hin] at s1
      rw [jn_add, jn_add] at s2
      obtain ⟨hlen, hkeys⟩ := keys_one o1 o2 s1 s2 (fun z hz hp => by
        have h1 := (hk z hz).1
        unfold Sys.part sysOf at h1
        simp only [Bool.and_eq_false_iff, Bool.not_eq_false', Bool.and_eq_true, beq_iff_eq] at h1
        rcases h1 with h1 | h1
        · exact hp.1 h1
        · exact hp.2 (eqV_iff.1 h1))
      refine ⟨by omega, by omega, by rw [jn_lt hin, jn_add]; exact hlen, fun c hc => ?_⟩
      rw [jn_lt hin] at hc
      have lc := s1.lt hc
      have lc' := s2.lt (i := c) (by omega)
      have ek := hkeys c hc
      unfold byI at ek
      unfold sK byI
      rw [jn_lt hin, jn_lt hin, jn_add, jn_add]
      have r1 : atKey (L i) (K i) (X i) (K i ((ls i).getD c 0)) = X i ((ls i).getD c 0) := atKey_at o1 lc
      have r2 : atKey (L' j) (K' j) (X' j) (K i ((ls i).getD c 0)) = X' j ((ls (n + j)).getD c 0) := by rw [ek]; exact atKey_at o2 lc'
      have v2 := (o2.all _ lc').val
      have v1 := (o1.all _ lc).val
      obtain ⟨p1, p2⟩ := hk (K i ((ls i).getD c 0)) ((mem_kidsOf _ _).2 (List.mem_append.2 (Or.inl (mem_keys.2 ⟨_, lc, rfl⟩))))
      rw [r1, r2] at p1 p2
      refine ⟨ek, ?_⟩
      unfold Sys.part sysOf at p1
      simp only [Bool.and_eq_false_iff, Bool.not_eq_false', Bool.and_eq_true, beq_iff_eq] at p1
      unfold Sys.live Sys.cp sysOf at p2
      simp only [Bool.and_eq_true, beq_iff_eq, Bool.not_eq_true', beq_eq_false_iff_ne] at p2
      rw [sh_k]
      have both : (X i ((ls i).getD c 0)).k = 4 → (X' j ((ls (n + j)).getD c 0)).k = 4 → (X i ((ls i).getD c 0)).a.toNat < n + m ∧ (sh n (X' j ((ls (n + j)).getD c 0))).a.toNat = n + (X' j ((ls (n + j)).getD c 0)).a.toNat ∧ n + (X' j ((ls (n + j)).getD c 0)).a.toNat < n + m := fun z1 z2 => by
        obtain ⟨c0, c1⟩ := isV_tab v1 z1
        obtain ⟨d0, d1⟩ := isV_tab v2 z2
        refine ⟨by omega, ?_, by omega⟩
        unfold sh
        rw [if_pos z2]
        simp only
        omega
      rcases p1 with p1 | p1
      · refine ⟨p1.1.trans p1.2.symm, fun _ => ?_, fun h4 => absurd p1.1 h4⟩
        obtain ⟨y1, y2, y3⟩ := both p1.1 p1.2
        rw [y2]
        by_cases hD : f (X i ((ls i).getD c 0)).a.toNat = f (n + (X' j ((ls (n + j)).getD c 0)).a.toNat)
        · exact Or.inl ⟨y1, y3, hD⟩
        · obtain ⟨x, hx, e1, e2⟩ := p2 ⟨p1, hD⟩
          exact Or.inr ⟨x, hx, by rw [e1], by rw [e2]⟩
      · have p1 := eqV_iff.1 p1
        refine ⟨by rw [p1], fun h4 => ?_, fun h4 => ?_⟩
        · have h4' : (X' j ((ls (n + j)).getD c 0)).k = 4 := by rw [← p1]; exact h4
          obtain ⟨y1, y2, y3⟩ := both h4 h4'
          rw [y2]
          by_cases hD : f (X i ((ls i).getD c 0)).a.toNat = f (n + (X' j ((ls (n + j)).getD c 0)).a.toNat)
          · exact Or.inl ⟨y1, y3, hD⟩
          · obtain ⟨x, hx, e1, e2⟩ := p2 ⟨⟨h4, h4'⟩, hD⟩
            exact Or.inr ⟨x, hx, by rw [e1], by rw [e2]⟩
        · rw [p1] at h4 ⊢
          unfold sh
          rw [if_neg h4]
  cases q with
  | nil => rfl
  | cons e q =>
    have hl := hW.live e (by simp)
    have he := hcls.wide _ hbis e.a.a.toNat (n + e.b.a.toNat) (Or.inr ⟨e, by simp, rfl, rfl⟩)
    unfold Sys.live Sys.cp sysOf at hl
    simp at hl
    exact absurd he hl.2

theorem ireach_way (h : OkG n u L K X) (h' : OkG m u' L' K' X') {j : Nat} {q : List E} (hI : IReach (sysOf n L K X L' K' X' f) ⟨u, u', []⟩ j q) : ∀ e ∈ q, e.a.k = 4 ∧ e.b.k = 4 ∧ e.p.foldl (step L K X) u = e.a ∧ e.p.foldl (step L' K' X') u' = e.b := by
  have hW := hI.wide (sys_next h h') (sys_ix n m L K X L' K' X' f) (show goodV n m u u' from ⟨h.root, h'.root⟩) rfl
  have hp : ∀ e ∈ q, e.p.foldl (step L K X) u = e.a ∧ e.p.foldl (step L' K' X') u' = e.b := by
    clear hW
    induction hI with
    | start =>
      intro e he
      unfold Sys.iadd at he
      split at he
      · obtain rfl : e = ⟨u, u', []⟩ := by simpa using he
        exact ⟨rfl, rfl⟩
      · simp at he
    | @step j q e h1 h2 h3 ih =>
      have hW := h1.wide (sys_next h h') (sys_ix n m L K X L' K' X' f) (show goodV n m u u' from ⟨h.root, h'.root⟩) rfl
      have hm : e ∈ q := List.mem_of_getElem? h2
      have hl := hW.live e hm
      have t1 : e.a.k = 4 := by unfold Sys.live Sys.cp sysOf at hl; simp at hl; exact hl.1.1
      have t2 : e.b.k = 4 := by unfold Sys.live Sys.cp sysOf at hl; simp at hl; exact hl.1.2
      obtain ⟨i1, i2⟩ := ih e hm
      obtain ⟨t, ht, ht2, _⟩ := igrow_pre (S := sysOf n L K X L' K' X' f) q e
      rw [ht]
      intro x hx
      rcases List.mem_append.1 hx with hx | hx
      · exact ih x hx
      · obtain ⟨k, _, rfl⟩ := ht2 x hx
        show (e.p ++ [k]).foldl (step L K X) u = atKey (L e.a.a.toNat) (K e.a.a.toNat) (X e.a.a.toNat) k ∧ (e.p ++ [k]).foldl (step L' K' X') u' = atKey (L' e.b.a.toNat) (K' e.b.a.toNat) (X' e.b.a.toNat) k
        rw [List.foldl_append, List.foldl_append, i1, i2]
        show step L K X e.a k = _ ∧ step L' K' X' e.b k = _
        unfold step
        rw [if_pos t1, if_pos t2]
        exact ⟨rfl, rfl⟩
  intro e he
  have hl := hW.live e he
  have t1 : e.a.k = 4 := by unfold Sys.live Sys.cp sysOf at hl; simp at hl; exact hl.1.1
  have t2 : e.b.k = 4 := by unfold Sys.live Sys.cp sysOf at hl; simp at hl; exact hl.1.2
  exact ⟨t1, t2, hp e he⟩

/-- Of two that are the same: no way. -/
theorem IDone.same (h' : OkG m u' L' K' X') {ans : List V} (hI : IDone (sysOf n L K X L' K' X' f) ⟨u, u', []⟩ ans) (ha : alike f u (sh n u') = true) : ans = [] := by
  refine hI.dead ?_
  unfold Sys.live Sys.cp sysOf
  simp only [Bool.and_eq_false_iff, Bool.not_eq_false', beq_iff_eq, beq_eq_false_iff_ne]
  by_cases h4 : u.k = 4 ∧ u'.k = 4
  · right
    have := (alike_iff.1 ha).2.1 h4.1
    obtain ⟨b0, b1⟩ := isV_tab h'.root h4.2
    unfold sh at this
    rw [if_pos h4.2] at this
    rw [this]
    congr 1
    simp only
    omega
  · left
    by_cases h1 : u.k = 4
    · exact Or.inr (fun h2 => h4 ⟨h1, h2⟩)
    · exact Or.inl h1

/-- Of two that are not the same: at the end of the way they part. -/
theorem IDone.parts (h : OkG n u L K X) (h' : OkG m u' L' K' X') (hc : ClsAre (n + m) (jn n L L') (jn n K K') (jn n X (fun j c => sh n (X' j c))) f) {ans : List V} (hI : IDone (sysOf n L K X L' K' X' f) ⟨u, u', []⟩ ans) (ha : alike f u (sh n u') = false) : ¬ ((ans.foldl (step L K X) u).k = 4 ∧ (ans.foldl (step L' K' X') u').k = 4) ∧ ans.foldl (step L K X) u ≠ ans.foldl (step L' K' X') u' := by
  by_cases h4 : u.k = 4 ∧ u'.k = 4
  · obtain ⟨b0, b1⟩ := isV_tab h'.root h4.2
    have hD : f u.a.toNat ≠ f (n + u'.a.toNat) := fun e => by
      have : alike f u (sh n u') = true := alike_iff.2 ⟨by rw [sh_k]; exact h4.1.trans h4.2.symm, fun _ => by
        unfold sh
        rw [if_pos h4.2, e]
        congr 1
        simp only
        omega, fun h => absurd h4.1 h⟩
      rw [this] at ha
      cases ha
    have hl : (sysOf n L K X L' K' X' f).live ⟨u, u', []⟩ = true := by
      unfold Sys.live Sys.cp sysOf
      simp [h4.1, h4.2, hD]
    rcases hI with ⟨j, q, e, pre, k, post, h1, h2, h3, _, h5, rfl⟩ | ⟨j, q, h1, h2, rfl⟩
    · obtain ⟨t1, t2, w1, w2⟩ := ireach_way h h' h1 e (List.mem_of_getElem? h2)
      rw [List.foldl_append, List.foldl_append, w1, w2]
      show ¬ ((step L K X e.a k).k = 4 ∧ (step L' K' X' e.b k).k = 4) ∧ step L K X e.a k ≠ step L' K' X' e.b k
      unfold step
      rw [if_pos t1, if_pos t2]
      unfold Sys.part Sys.child sysOf at h5
      simp only [Bool.and_eq_true, Bool.not_eq_true', Bool.and_eq_false_iff, beq_eq_false_iff_ne] at h5
      refine ⟨fun hh => ?_, fun hh => ?_⟩
      · rcases h5.1 with h6 | h6
        · exact h6 hh.1
        · exact h6 hh.2
      · have := h5.2
        rw [eqV_iff.2 hh] at this
        cases this
    · have := h1.first hl
      rw [h1.nobody h h' hc h2] at this
      simp at this
  · have hl : (sysOf n L K X L' K' X' f).live ⟨u, u', []⟩ = false := by
      unfold Sys.live Sys.cp sysOf
      simp only [Bool.and_eq_false_iff, beq_eq_false_iff_ne]
      left
      by_cases h1 : u.k = 4
      · exact Or.inr (fun h2 => h4 ⟨h1, h2⟩)
      · exact Or.inl h1
    obtain rfl := hI.dead hl
    refine ⟨h4, fun e => ?_⟩
    have e : u = u' := e
    subst e
    have hk : u.k ≠ 4 := fun e => h4 ⟨e, e⟩
    unfold sh at ha
    rw [if_neg hk, alike_refl] at ha
    cases ha
end

theorem lead_fold (u : V) (L : Nat → Nat) (K X : Nat → Nat → V) (P : Nat → V) : ∀ i, lead u L K X P i = ((List.range i).map P).foldl (step L K X) u
  | 0 => rfl
  | i + 1 => by
    rw [List.range_succ, List.map_append, List.foldl_append, ← lead_fold u L K X P i]
    rfl
theorem lead_way (u : V) (L : Nat → Nat) (K X : Nat → Nat → V) (p : List V) : lead u L K X (fun i => p.getD i zeroV) p.length = p.foldl (step L K X) u := by
  rw [lead_fold]
  congr 1
  refine List.ext_getElem? fun i => ?_
  by_cases hi : i < p.length
  · simp [hi]
  · simp [hi]

end Go.Proofs.Ytgflalfiopnmnaa.Aw
