import Derived.Test.YtgflalfiopnmnaaGreatDoorR12
import Derived.Test.YtgflalfiopnmnaaGreatDoorR10
import Derived.Test.YtgflalfiopnmnaaGreatDoorR1
import Derived.Lib.ItoaNum
/-
  Two graphs side by side: the keys in order, and what fits.
-/
namespace Go.Proofs.YtgflalfiopnmnaaGreatDoor.Aw
open Vl

theorem lt_trans {a b c : V} (h : less a b = true) (k : less b c = true) : less a c = true := by
  cases e : less a c with
  | true => rfl
  | false =>
    have := le_trans e (less_asymm h)
    rw [k] at this
    cases this
theorem lt_irrefl (a : V) : less a a = false := by
  cases e : less a a with
  | false => rfl
  | true => have := less_asymm e; rw [e] at this; cases this

/-- Keys in order, each once. -/
def ins (k : V) : List V → List V
  | [] => [k]
  | x :: xs => if less k x = true then k :: x :: xs else if eqV k x = true then x :: xs else x :: ins k xs
def kidsOf (ks : List V) : List V := ks.foldr ins []
def Strict (l : List V) : Prop := l.Pairwise fun a b => less a b = true

theorem mem_ins (k : V) : ∀ (l : List V) (x : V), x ∈ ins k l ↔ x = k ∨ x ∈ l
  | [], x => by simp [ins]
  | y :: ys, x => by
    unfold ins
    split
    · simp
    · split
      · rename_i h
        have : k = y := eqV_iff.1 h
        simp [this]
      · simp only [List.mem_cons, mem_ins k ys x]
        constructor
        · rintro (h | h | h)
          · exact Or.inr (Or.inl h)
          · exact Or.inl h
          · exact Or.inr (Or.inr h)
        · rintro (h | h | h)
          · exact Or.inr (Or.inl h)
          · exact Or.inl h
          · exact Or.inr (Or.inr h)
theorem ins_len (k : V) : ∀ (l : List V), (ins k l).length ≤ l.length + 1
  | [] => by simp [ins]
  | y :: ys => by
    unfold ins
    split
    · simp
    · split
      · simp
      · have := ins_len k ys
        simp only [List.length_cons]
        omega
theorem ins_strict {k : V} (hk : isK k = true) : ∀ (l : List V), (∀ x ∈ l, isK x = true) → Strict l → Strict (ins k l)
  | [], _, _ => by simp [ins, Strict]
  | y :: ys, ha, h => by
    obtain ⟨h1, h2⟩ := List.pairwise_cons.1 h
    unfold ins
    split
    · rename_i hl
      refine List.pairwise_cons.2 ⟨fun z hz => ?_, h⟩
      rcases List.mem_cons.1 hz with rfl | hz
      · exact hl
      · exact lt_trans hl (h1 z hz)
    · split
      · exact h
      · rename_i hl he
        refine List.pairwise_cons.2 ⟨fun z hz => ?_, ins_strict hk ys (fun x hx => ha x (by simp [hx])) h2⟩
        rcases (mem_ins k ys z).1 hz with rfl | hz
        · cases e : less y z with
          | true => rfl
          | false => exact absurd (eqV_iff.2 (key_one hk (ha y (by simp)) ((Bool.not_eq_true _).mp hl) e)) he
        · exact h1 z hz
theorem mem_kidsOf : ∀ (ks : List V) (x : V), x ∈ kidsOf ks ↔ x ∈ ks
  | [], x => by simp [kidsOf]
  | k :: ks, x => by
    have := mem_kidsOf ks x
    unfold kidsOf at this ⊢
    rw [List.foldr_cons, mem_ins, this]
    simp
theorem kidsOf_len : ∀ (ks : List V), (kidsOf ks).length ≤ ks.length
  | [] => by simp [kidsOf]
  | k :: ks => by
    have := kidsOf_len ks
    have h2 := ins_len k (kidsOf ks)
    unfold kidsOf at this h2 ⊢
    rw [List.foldr_cons]
    simp only [List.length_cons]
    omega
theorem kidsOf_strict : ∀ (ks : List V), (∀ k ∈ ks, isK k = true) → Strict (kidsOf ks)
  | [], _ => by simp [kidsOf, Strict]
  | k :: ks, h => by
    have := kidsOf_strict ks (fun x hx => h x (by simp [hx]))
    refine ins_strict (h k (by simp)) _ (fun x hx => ?_) this
    exact h x (by rw [List.mem_cons]; exact Or.inr ((mem_kidsOf ks x).1 hx))
/-- Keys in order, each once, are one row. -/
theorem strict_one : ∀ {l m : List V}, Strict l → Strict m → (∀ x, x ∈ l ↔ x ∈ m) → l = m
  | [], [], _, _, _ => rfl
  | [], b :: m, _, _, h => by have := (h b).2 (by simp); cases this
  | a :: l, [], _, _, h => by have := (h a).1 (by simp); cases this
  | a :: l, b :: m, h1, h2, h => by
    obtain ⟨p1, p2⟩ := List.pairwise_cons.1 h1
    obtain ⟨q1, q2⟩ := List.pairwise_cons.1 h2
    have e : a = b := by
      by_cases e : a = b
      · exact e
      · have ha : a ∈ m := by
          rcases List.mem_cons.1 ((h a).1 (by simp)) with h | h
          · exact absurd h e
          · exact h
        have hb : b ∈ l := by
          rcases List.mem_cons.1 ((h b).2 (by simp)) with h | h
          · exact absurd h.symm e
          · exact h
        have := less_asymm (p1 b hb)
        rw [q1 a ha] at this
        cases this
    subst e
    rw [strict_one p2 q2 (fun x => ?_)]
    constructor
    · intro hx
      rcases List.mem_cons.1 ((h x).1 (by simp [hx])) with h' | h'
      · have := p1 x hx; rw [h', lt_irrefl] at this; cases this
      · exact h'
    · intro hx
      rcases List.mem_cons.1 ((h x).2 (by simp [hx])) with h' | h'
      · have := q1 x hx; rw [h', lt_irrefl] at this; cases this
      · exact h'

theorem mem_keys {K : Nat → V} {c : Nat} {k : V} : k ∈ keys K c ↔ ∃ j, j < c ∧ K j = k := by simp [keys]
theorem atKey_at {n L : Nat} {K X : Nat → V} (h : OkT n L K X) {c : Nat} (hc : c < L) : atKey L K X (K c) = X c :=
  atKey_hit hc (eqV_iff.2 rfl) (fun i hi => (h.all c hc).once i hi)
theorem atKey_no {L : Nat} {K X : Nat → V} {k : V} (h : k ∉ keys K L) : atKey L K X k = zeroV :=
  atKey_none (fun j hj => by
    cases e : eqV (K j) k with
    | false => rfl
    | true => exact absurd (mem_keys.2 ⟨j, hj, eqV_iff.1 e⟩) h)
theorem perm_at {L : Nat} {K : Nat → V} {ls : List Nat} (h : SortI K L ls) {c : Nat} (hc : c < L) : ∃ q, q < L ∧ ls.getD q 0 = c := by
  obtain ⟨q, hq, e⟩ := List.mem_iff_getElem.1 (h.perm.symm.subset (List.mem_range.2 hc))
  exact ⟨q, by rw [← h.len]; exact hq, by rw [List.getD_eq_getElem?_getD, List.getElem?_eq_getElem hq]; exact e⟩

/-- Two graphs, and the classes of their tables side by side. -/
def sysOf (n : Nat) (L : Nat → Nat) (K X : Nat → Nat → V) (L' : Nat → Nat) (K' X' : Nat → Nat → V) (f : Nat → Nat) : Sys where
  tab v := v.k == 4
  atA x k := atKey (L x.a.toNat) (K x.a.toNat) (X x.a.toNat) k
  atB y k := atKey (L' y.a.toNat) (K' y.a.toNat) (X' y.a.toNat) k
  kids x y := kidsOf (keys (K x.a.toNat) (L x.a.toNat) ++ keys (K' y.a.toNat) (L' y.a.toNat))
  D x y := !(f x.a.toNat == f (n + y.a.toNat))
def goodV (n m : Nat) (x y : V) : Prop := isV n x = true ∧ isV m y = true

theorem tab_one {n : Nat} {x y : V} (hx : isV n x = true) (hy : isV n y = true) (h : x.k = 4) (h' : y.k = 4) (e : x.a.toNat = y.a.toNat) : x = y := by
  obtain ⟨a0, a1⟩ := isV_tab hx h
  obtain ⟨b0, b1⟩ := isV_tab hy h'
  unfold isV at hx hy
  rw [if_neg (by omega), if_neg (by omega), if_neg (by omega), if_neg (by omega), if_pos h] at hx
  rw [if_neg (by omega), if_neg (by omega), if_neg (by omega), if_neg (by omega), if_pos h'] at hy
  simp only [Bool.and_eq_true, beq_iff_eq, decide_eq_true_eq] at hx hy
  apply eqV_iff.1
  simp only [eqV, Bool.and_eq_true, beq_iff_eq]
  refine ⟨by omega, by omega, by rw [hx.2.1, hy.2.1], by omega⟩

theorem sys_ix (n m : Nat) (L : Nat → Nat) (K X : Nat → Nat → V) (L' : Nat → Nat) (K' X' : Nat → Nat → V) (f : Nat → Nat) : Ix (sysOf n L K X L' K' X' f) (goodV n m) (fun x y => x.a.toNat * m + y.a.toNat) (n * m) := by
  refine ⟨fun x y hg hx hy => ?_, fun x y x' y' hg hx hy hg' hx' hy' e => ?_⟩
  · have hx : x.k = 4 := by simpa [sysOf] using hx
    have hy : y.k = 4 := by simpa [sysOf] using hy
    obtain ⟨a0, a1⟩ := isV_tab hg.1 hx
    obtain ⟨b0, b1⟩ := isV_tab hg.2 hy
    have h1 : x.a.toNat + 1 ≤ n := by omega
    have h2 : (x.a.toNat + 1) * m ≤ n * m := Nat.mul_le_mul_right _ h1
    rw [Nat.add_mul] at h2
    show x.a.toNat * m + y.a.toNat < n * m
    omega
  · have hx : x.k = 4 := by simpa [sysOf] using hx
    have hy : y.k = 4 := by simpa [sysOf] using hy
    have hx' : x'.k = 4 := by simpa [sysOf] using hx'
    have hy' : y'.k = 4 := by simpa [sysOf] using hy'
    obtain ⟨b0, b1⟩ := isV_tab hg.2 hy
    obtain ⟨c0, c1⟩ := isV_tab hg'.2 hy'
    have e : x.a.toNat * m + y.a.toNat = x'.a.toNat * m + y'.a.toNat := e
    have h1 : y.a.toNat = y'.a.toNat := by
      have h := congrArg (· % m) e
      simp only [Nat.mul_add_mod_self_right] at h
      rw [Nat.mod_eq_of_lt (by omega), Nat.mod_eq_of_lt (by omega)] at h
      exact h
    have h2 : x.a.toNat = x'.a.toNat := by
      rw [h1] at e
      exact Nat.eq_of_mul_eq_mul_right (show 0 < m by omega) (Nat.add_right_cancel e)
    exact ⟨tab_one hg.1 hg'.1 hx hx' h2, tab_one hg.2 hg'.2 hy hy' h1⟩

theorem sys_few {n m : Nat} {u u' : V} {L : Nat → Nat} {K X : Nat → Nat → V} {L' : Nat → Nat} {K' X' : Nat → Nat → V} {f : Nat → Nat} (h : OkG n u L K X) (h' : OkG m u' L' K' X') : ∀ x y, goodV n m x y → (sysOf n L K X L' K' X' f).tab x = true → (sysOf n L K X L' K' X' f).tab y = true → ((sysOf n L K X L' K' X' f).kids x y).length ≤ 200 := by
  intro x y hg hx hy
  have hx : x.k = 4 := by simpa [sysOf] using hx
  have hy : y.k = 4 := by simpa [sysOf] using hy
  obtain ⟨a0, a1⟩ := isV_tab hg.1 hx
  obtain ⟨b0, b1⟩ := isV_tab hg.2 hy
  have h1 := (h.all x.a.toNat (by omega)).len
  have h2 := (h'.all y.a.toNat (by omega)).len
  have h3 := kidsOf_len (keys (K x.a.toNat) (L x.a.toNat) ++ keys (K' y.a.toNat) (L' y.a.toNat))
  rw [List.length_append, keys_len, keys_len] at h3
  show (kidsOf _).length ≤ 200
  omega

theorem sys_next {n m : Nat} {u u' : V} {L : Nat → Nat} {K X : Nat → Nat → V} {L' : Nat → Nat} {K' X' : Nat → Nat → V} {f : Nat → Nat} (h : OkG n u L K X) (h' : OkG m u' L' K' X') : Nexts (sysOf n L K X L' K' X' f) (goodV n m) := fun x y hg hx hy k _ => by
  have hx : x.k = 4 := by simpa [sysOf] using hx
  have hy : y.k = 4 := by simpa [sysOf] using hy
  obtain ⟨a0, a1⟩ := isV_tab hg.1 hx
  obtain ⟨b0, b1⟩ := isV_tab hg.2 hy
  exact ⟨isV_at (h.all x.a.toNat (by omega)) k, isV_at (h'.all y.a.toNat (by omega)) k⟩

theorem sys_fits {n m : Nat} {u u' : V} {L : Nat → Nat} {K X : Nat → Nat → V} {L' : Nat → Nat} {K' X' : Nat → Nat → V} {f : Nat → Nat} (h : OkG n u L K X) (h' : OkG m u' L' K' X') (hc : ClsAre (n + m) (jn n L L') (jn n K K') (jn n X (fun j c => sh n (X' j c))) f) : Fits (sysOf n L K X L' K' X' f) (goodV n m) := by
  refine ⟨fun x y hg hx hy k hk => ?_, fun x y hg hx hy hD k hk => ?_⟩
  · have hx : x.k = 4 := by simpa [sysOf] using hx
    have hy : y.k = 4 := by simpa [sysOf] using hy
    obtain ⟨a0, a1⟩ := isV_tab hg.1 hx
    obtain ⟨b0, b1⟩ := isV_tab hg.2 hy
    exact ⟨isV_at (h.all x.a.toNat (by omega)) k, isV_at (h'.all y.a.toNat (by omega)) k⟩
  · have hx : x.k = 4 := by simpa [sysOf] using hx
    have hy : y.k = 4 := by simpa [sysOf] using hy
    have hD : f x.a.toNat = f (n + y.a.toNat) := by simpa [sysOf] using hD
    obtain ⟨a0, a1⟩ := isV_tab hg.1 hx
    obtain ⟨b0, b1⟩ := isV_tab hg.2 hy
    obtain ⟨i, hi⟩ : ∃ i, x.a.toNat = i := ⟨_, rfl⟩
    obtain ⟨j, hj⟩ : ∃ j, y.a.toNat = j := ⟨_, rfl⟩
    have hin : i < n := by omega
    have hjm : j < m := by omega
    have hk : k ∈ kidsOf (keys (K i) (L i) ++ keys (K' j) (L' j)) := by rw [← hi, ← hj]; exact hk
    rw [mem_kidsOf, List.mem_append] at hk
    show (((atKey (L x.a.toNat) (K x.a.toNat) (X x.a.toNat) k).k == 4) = true ∧ ((atKey (L' y.a.toNat) (K' y.a.toNat) (X' y.a.toNat) k).k == 4) = true ∧ (!(f (atKey (L x.a.toNat) (K x.a.toNat) (X x.a.toNat) k).a.toNat == f (n + (atKey (L' y.a.toNat) (K' y.a.toNat) (X' y.a.toNat) k).a.toNat))) = false) ∨ (¬ (((atKey (L x.a.toNat) (K x.a.toNat) (X x.a.toNat) k).k == 4) = true ∧ ((atKey (L' y.a.toNat) (K' y.a.toNat) (X' y.a.toNat) k).k == 4) = true) ∧ atKey (L x.a.toNat) (K x.a.toNat) (X x.a.toNat) k = atKey (L' y.a.toNat) (K' y.a.toNat) (X' y.a.toNat) k)
    rw [hi, hj] at hD ⊢
    obtain ⟨ls, hs, hcls⟩ := hc
    have hlk := hcls.bis i (n + j) (by omega) (by omega) hD
    have s1 := hs i (by omega)
    have s2 := hs (n + j) (by omega)
    have hlen := hlk.len
    have hall := hlk.all
    unfold sK at hall
    rw [jn_lt hin, jn_lt hin] at s1
    rw [jn_add, jn_add] at s2
    rw [jn_lt hin, jn_add] at hlen
    rw [jn_lt hin, jn_lt hin, jn_lt hin, jn_add, jn_add] at hall
    have o1 := h.all i hin
    have o2 := h'.all j hjm
    have key : ∃ q, q < L i ∧ K i ((ls i).getD q 0) = k := by
      rcases hk with hk | hk
      · obtain ⟨c, hc, rfl⟩ := mem_keys.1 hk
        obtain ⟨q, hq, e⟩ := perm_at s1 hc
        exact ⟨q, hq, by rw [e]⟩
      · obtain ⟨c, hc, rfl⟩ := mem_keys.1 hk
        obtain ⟨q, hq, e⟩ := perm_at s2 hc
        exact ⟨q, by omega, by rw [← e]; exact (hall q (by omega)).1⟩
    obtain ⟨q, hq, rfl⟩ := key
    obtain ⟨e1, e2⟩ := hall q hq
    have e1 : K i ((ls i).getD q 0) = K' j ((ls (n + j)).getD q 0) := e1
    have e2 : alike f (X i ((ls i).getD q 0)) (sh n (X' j ((ls (n + j)).getD q 0))) = true := e2
    have r1 : atKey (L i) (K i) (X i) (K i ((ls i).getD q 0)) = X i ((ls i).getD q 0) := atKey_at o1 (s1.lt hq)
    have r2 : atKey (L' j) (K' j) (X' j) (K i ((ls i).getD q 0)) = X' j ((ls (n + j)).getD q 0) := by rw [e1]; exact atKey_at o2 (s2.lt (by omega))
    have v2 := (o2.all _ (s2.lt (i := q) (by omega))).val
    rw [r1, r2]
    obtain ⟨b1', b2', b3'⟩ := alike_iff.1 e2
    rw [sh_k] at b1'
    by_cases h4 : (X i ((ls i).getD q 0)).k = 4
    · left
      have h4' := b1'.symm.trans h4
      obtain ⟨c0, c1⟩ := isV_tab v2 h4'
      refine ⟨by simpa using h4, by simpa using h4', ?_⟩
      have := b2' h4
      unfold sh at this
      rw [if_pos h4'] at this
      simp only [Bool.not_eq_false', beq_iff_eq]
      rw [this]
      congr 1
      simp only
      omega
    · right
      refine ⟨fun e => h4 (beq_iff_eq.1 e.1), ?_⟩
      have := b3' h4
      unfold sh at this
      rw [if_neg (by rw [← b1']; exact h4)] at this
      exact this

/-- Where no key parts two tables, the keys of the first are those of both. -/
theorem order_kids {n m : Nat} {L L' : Nat} {K X K' X' : Nat → V} {ls : List Nat} (h : OkT n L K X) (h' : OkT m L' K' X') (hs : SortI K L ls) (hno : ∀ k ∈ kidsOf (keys K L ++ keys K' L'), ¬ (¬ ((atKey L K X k).k = 4 ∧ (atKey L' K' X' k).k = 4) ∧ atKey L K X k ≠ atKey L' K' X' k)) : keys (byI K ls) L = kidsOf (keys K L ++ keys K' L') := by
  have hk : ∀ k ∈ keys K L ++ keys K' L', isK k = true := fun k hk => by
    rcases List.mem_append.1 hk with hk | hk
    · obtain ⟨c, hc, rfl⟩ := mem_keys.1 hk; exact (h.all c hc).key
    · obtain ⟨c, hc, rfl⟩ := mem_keys.1 hk; exact (h'.all c hc).key
  refine strict_one ?_ (kidsOf_strict _ hk) (fun x => ?_)
  · unfold Strict keys
    rw [List.pairwise_map]
    rw [List.pairwise_iff_getElem]
    intro a b ha hb hab
    simp only [List.getElem_range]
    simp only [List.length_range] at ha hb
    have hsw := hs.sort
    unfold SortW at hsw
    rw [List.pairwise_iff_getElem] at hsw
    have hl := hs.len
    have h1 := hsw a b (by omega) (by omega) hab
    have ga : ls.getD a 0 = ls[a] := by rw [List.getD_eq_getElem?_getD, List.getElem?_eq_getElem (by omega)]; rfl
    have gb : ls.getD b 0 = ls[b] := by rw [List.getD_eq_getElem?_getD, List.getElem?_eq_getElem (by omega)]; rfl
    rw [← ga, ← gb] at h1
    have hne := SortI.ne hs hab hb
    show less (K (ls.getD a 0)) (K (ls.getD b 0)) = true
    cases e : less (K (ls.getD a 0)) (K (ls.getD b 0)) with
    | true => rfl
    | false => exact absurd (key_one (h.all _ (hs.lt ha)).key (h.all _ (hs.lt hb)).key e h1) (Vl.OkT.once h (hs.lt ha) (hs.lt hb) hne)
  · rw [mem_kidsOf, List.mem_append]
    constructor
    · intro hx
      obtain ⟨c, hc, rfl⟩ := mem_keys.1 hx
      exact Or.inl (mem_keys.2 ⟨_, hs.lt hc, rfl⟩)
    · intro hx
      have hin : x ∈ keys K L := by
        rcases hx with hx | hx
        · exact hx
        · by_cases hh : x ∈ keys K L
          · exact hh
          · exfalso
            obtain ⟨c, hc, rfl⟩ := mem_keys.1 hx
            have hz := atKey_no (X := X) hh
            have hv : atKey L' K' X' (K' c) = X' c := atKey_at h' hc
            refine hno (K' c) ((mem_kidsOf _ _).2 (List.mem_append.2 (Or.inr hx))) ?_
            rw [hz, hv]
            refine ⟨fun e => by have := e.1; simp [zeroV] at this, fun e => (h'.all c hc).some ?_⟩
            rw [← e]
            rfl
      obtain ⟨c, hc, rfl⟩ := mem_keys.1 hin
      obtain ⟨q, hq, e⟩ := perm_at hs hc
      exact mem_keys.2 ⟨q, hq, by unfold byI; rw [e]⟩

theorem split_at {P : V → Prop} {ks : List V} {k : V} (hs : Strict (kidsOf ks)) (hk : k ∈ ks) (hmin : ∀ x ∈ ks, P x → less x k = false) : ∃ pre post, kidsOf ks = pre ++ k :: post ∧ ∀ x ∈ pre, ¬ P x := by
  obtain ⟨pre, post, e⟩ := List.append_of_mem ((mem_kidsOf ks k).2 hk)
  refine ⟨pre, post, e, fun x hx hp => ?_⟩
  rw [e] at hs
  have h1 := (List.pairwise_append.1 hs).2.2 x hx k (by simp)
  have h2 := hmin x ((mem_kidsOf ks x).1 (by rw [e]; simp [hx])) hp
  rw [h1] at h2
  cases h2

theorem atKey_sh (N L : Nat) (K X : Nat → V) (k : V) : atKey L K (fun c => sh N (X c)) k = sh N (atKey L K X k) := by
  unfold atKey
  cases (List.range L).find? (fun j => eqV (K j) k) with
  | none => simp [sh, zeroV]
  | some j => rfl

end Go.Proofs.YtgflalfiopnmnaaGreatDoor.Aw

/-
  A ring and one with a pair more: where they part. No Go in sight.
-/
namespace Go.Proofs.YtgflalfiopnmnaaGreatDoor
open Vl

/-- A ring and one with a pair more, side by side: table i of both are not the same. -/
theorem ab_part {n : Nat} {f : Nat → Nat} (h : ClsAre (n + n) (jn n raL (rbL n)) (jn n raK rbK) (jn n (raX n) (fun j c => sh n (rbX n j c))) f) : ∀ (d i : Nat), i + d = n - 1 → i < n → f i ≠ f (n + i) := by
  obtain ⟨ls, hs, hc⟩ := h
  intro d
  induction d with
  | zero =>
    intro i hi hn e
    have := (hc.bis i (n + i) (by omega) (by omega) e).len
    rw [jn_lt hn, jn_add, show i = n - 1 by omega, rbL_last] at this
    exact absurd this (by unfold raL; omega)
  | succ d ih =>
    intro i hi hn e
    have hl := hc.bis i (n + i) (by omega) (by omega) e
    have h0 := (hl.all 0 (by rw [jn_lt hn]; unfold raL; omega)).2
    have e1 : sK (jn n (raX n) (fun j c => sh n (rbX n j c))) ls i 0 = rgX n i := by
      show jn n (raX n) (fun j c => sh n (rbX n j c)) i ((ls i).getD 0 0) = _
      rw [jn_lt hn]
      rfl
    have e2 : sK (jn n (raX n) (fun j c => sh n (rbX n j c))) ls (n + i) 0 = sh n (rgX n i) := by
      have h1 := (hs (n + i) (by omega)).lt (i := 0) (by rw [jn_add, rbL_one (by omega)]; omega)
      rw [jn_add, rbL_one (by omega)] at h1
      have h2 : (ls (n + i)).getD 0 0 = 0 := by omega
      show jn n (raX n) (fun j c => sh n (rbX n j c)) (n + i) ((ls (n + i)).getD 0 0) = _
      rw [h2, jn_add]
      rfl
    rw [e1, e2] at h0
    have h1 := (alike_iff.1 h0).2.1 rfl
    have hm : (i + 1) % n = i + 1 := Nat.mod_eq_of_lt (by omega)
    have a1 : (rgX n i).a.toNat = i + 1 := by show (((i + 1) % n : Nat) : Int).toNat = i + 1; rw [hm]; omega
    have a2 : (sh n (rgX n i)).a.toNat = n + (i + 1) := by
      unfold sh
      rw [if_pos (show (rgX n i).k = 4 from rfl)]
      show ((((i + 1) % n : Nat) : Int) + n).toNat = n + (i + 1)
      rw [hm]; omega
    rw [a1, a2] at h1
    exact ih (i + 1) (by omega) (by omega) h1

theorem eqV_self (v : V) : eqV v v = true := eqV_iff.2 rfl
theorem eqV_KT : eqV rgK rgT = false := by unfold eqV rgK rgT; simp
theorem eqV_TK : eqV rgT rgK = false := by unfold eqV rgK rgT; simp
theorem less_KK : less rgK rgK = false := by unfold less rgK; simp
theorem less_KT : less rgK rgT = true := by unfold less rgK rgT; simp

theorem kids_one : Aw.kidsOf [rgK, rgK] = [rgK] := by
  simp [Aw.kidsOf, Aw.ins, less_KK, eqV_self]
theorem kids_two : Aw.kidsOf [rgK, rgK, rgT] = [rgK, rgT] := by
  simp [Aw.kidsOf, Aw.ins, less_KK, less_KT, eqV_self]

/-- Table i of both, behind i steps. -/
def rgV (i : Nat) : V := ⟨4, 0, rgE, (i : Nat)⟩
def rgC (i : Nat) : Aw.E := ⟨rgV i, rgV i, List.replicate i rgK⟩

section
variable {n : Nat} {f : Nat → Nat}
abbrev rgS (n : Nat) (f : Nat → Nat) : Aw.Sys := Aw.sysOf n raL raK (raX n) (rbL n) rbK (rbX n) f

theorem rgV_at (i : Nat) : (rgV i).a.toNat = i := by show ((i : Nat) : Int).toNat = i; omega
theorem rgX_eq {i : Nat} (h : i + 1 < n) : rgX n i = rgV (i + 1) := by unfold rgX rgV; rw [Nat.mod_eq_of_lt h]
theorem rgX_last (h0 : 0 < n) : rgX n (n - 1) = rgV 0 := by
  unfold rgX rgV
  rw [show n - 1 + 1 = n by omega, Nat.mod_self]
theorem atA_K (i : Nat) : (rgS n f).atA (rgV i) rgK = rgX n i := by
  show atKey (raL (rgV i).a.toNat) (raK (rgV i).a.toNat) (raX n (rgV i).a.toNat) rgK = _
  rw [rgV_at]
  unfold atKey raL
  simp [List.range_succ, raK, eqV_self, raX]
theorem atA_T (i : Nat) : (rgS n f).atA (rgV i) rgT = zeroV := by
  show atKey (raL (rgV i).a.toNat) (raK (rgV i).a.toNat) (raX n (rgV i).a.toNat) rgT = _
  rw [rgV_at]
  unfold atKey raL
  simp [List.range_succ, raK, eqV_KT]
theorem atB_K (i : Nat) : (rgS n f).atB (rgV i) rgK = rgX n i := by
  show atKey (rbL n (rgV i).a.toNat) (rbK (rgV i).a.toNat) (rbX n (rgV i).a.toNat) rgK = _
  rw [rgV_at]
  have hl : rbL n i = 1 ∨ rbL n i = 2 := by
    unfold rbL
    by_cases h : i = n - 1
    · rw [if_pos h]; exact Or.inr rfl
    · rw [if_neg h]; exact Or.inl rfl
  unfold atKey
  rcases hl with h | h
  · rw [h]; simp [List.range_succ, rbK, eqV_self, rbX]
  · rw [h]; simp [List.range_succ, rbK, eqV_self, rbX]
theorem atB_T : (rgS n f).atB (rgV (n - 1)) rgT = rgT := by
  show atKey (rbL n (rgV (n - 1)).a.toNat) (rbK (rgV (n - 1)).a.toNat) (rbX n (rgV (n - 1)).a.toNat) rgT = _
  rw [rgV_at, rbL_last]
  unfold atKey
  simp [List.range_succ, rbK, eqV_self, eqV_KT, rbX]
theorem kids_in {i : Nat} (h : i < n - 1) : (rgS n f).kids (rgV i) (rgV i) = [rgK] := by
  show Aw.kidsOf (keys (raK (rgV i).a.toNat) (raL (rgV i).a.toNat) ++ keys (rbK (rgV i).a.toNat) (rbL n (rgV i).a.toNat)) = _
  rw [rgV_at, rbL_one h]
  exact kids_one
theorem kids_last : (rgS n f).kids (rgV (n - 1)) (rgV (n - 1)) = [rgK, rgT] := by
  show Aw.kidsOf (keys (raK (rgV (n - 1)).a.toNat) (raL (rgV (n - 1)).a.toNat) ++ keys (rbK (rgV (n - 1)).a.toNat) (rbL n (rgV (n - 1)).a.toNat)) = _
  rw [rgV_at, rbL_last]
  exact kids_two
theorem child_K {i : Nat} (h : i + 1 < n) : (rgS n f).child (rgC i) rgK = rgC (i + 1) := by
  show Aw.E.mk ((rgS n f).atA (rgV i) rgK) ((rgS n f).atB (rgV i) rgK) (List.replicate i rgK ++ [rgK]) = Aw.E.mk (rgV (i + 1)) (rgV (i + 1)) (List.replicate (i + 1) rgK)
  rw [atA_K, atB_K, rgX_eq h, List.replicate_succ']
theorem part_C (i : Nat) : (rgS n f).part (rgC i) = false := rfl
theorem cp_C (i : Nat) : (rgS n f).cp (rgC i) = true := rfl
theorem same_C {i j : Nat} (h : i ≠ j) : Aw.same (rgC j) (rgC i) = false := by
  have : eqV (rgV i) (rgV j) = false := by
    cases e : eqV (rgV i) (rgV j) with
    | false => rfl
    | true =>
      have := eqV_iff.1 e
      have h2 := congrArg (fun v => v.a.toNat) this
      simp only [rgV_at] at h2
      exact absurd h2 h
  show (eqV (rgV i) (rgV j) && eqV (rgV i) (rgV j)) = false
  rw [this]
  rfl

theorem rg_reach (hd : ∀ i, i < n → f i ≠ f (n + i)) : ∀ j, j < n → Aw.IReach (rgS n f) (rgC 0) j ((List.range (j + 1)).map rgC) := by
  have hD : ∀ i, i < n → (rgS n f).D (rgV i) (rgV i) = true := fun i hi => by
    show (!(f (rgV i).a.toNat == f (n + (rgV i).a.toNat))) = true
    rw [rgV_at]
    simpa using hd i hi
  intro j
  induction j with
  | zero =>
    intro hj
    have h := Aw.IReach.start (S := rgS n f) (r := rgC 0)
    have e : (rgS n f).iadd [] (rgC 0) = (List.range (0 + 1)).map rgC := by
      unfold Aw.Sys.iadd
      rw [cp_C, show (rgS n f).D (rgC 0).a (rgC 0).b = true from hD 0 hj]
      rfl
    rw [e] at h
    exact h
  | succ j ih =>
    intro hj
    have h1 := ih (by omega)
    have hk := kids_in (n := n) (f := f) (i := j) (by omega)
    have hc := child_K (n := n) (f := f) (i := j) hj
    have h2 := Aw.IReach.step h1 (e := rgC j) (by simp) (fun k hk' => by
      have : k = rgK := by
        have h3 : k ∈ (rgS n f).kids (rgV j) (rgV j) := hk'
        rw [hk] at h3
        simpa using h3
      subst this
      rw [hc]
      rfl)
    have e : (rgS n f).igrow ((List.range (j + 1)).map rgC) (rgC j) = (List.range (j + 1 + 1)).map rgC := by
      show ((rgS n f).kids (rgV j) (rgV j)).foldl _ _ = _
      rw [hk, List.foldl_cons, List.foldl_nil, hc]
      unfold Aw.Sys.iadd
      have ha : ((List.range (j + 1)).map rgC).any (Aw.same (rgC (j + 1))) = false := by
        rw [List.any_eq_false]
        intro x hx
        obtain ⟨i, hi, rfl⟩ := List.mem_map.1 hx
        rw [List.mem_range] at hi
        rw [same_C (by omega)]
        simp
      rw [cp_C, show (rgS n f).D (rgC (j + 1)).a (rgC (j + 1)).b = true from hD (j + 1) hj, ha, List.range_succ (n := j + 1), List.map_append]
      rfl
    rw [e] at h2
    exact h2

/-- The path: n - 1 steps along the ring, and the key that is one more. -/
theorem rg_path (h0 : 0 < n) (hd : ∀ i, i < n → f i ≠ f (n + i)) : Aw.IDone (rgS n f) ⟨rgU, rgU, []⟩ (List.replicate (n - 1) rgK ++ [rgT]) := by
  refine Or.inl ⟨n - 1, _, rgC (n - 1), [rgK], rgT, [], rg_reach hd (n - 1) (by omega), by simp, kids_last, fun k hk => ?_, ?_, rfl⟩
  · have : k = rgK := by simpa using hk
    subst this
    show (!((rgS n f).tab ((rgS n f).atA (rgV (n - 1)) rgK) && (rgS n f).tab ((rgS n f).atB (rgV (n - 1)) rgK)) && _) = false
    rw [atA_K, atB_K]
    rfl
  · show (!((rgS n f).tab ((rgS n f).atA (rgV (n - 1)) rgT) && (rgS n f).tab ((rgS n f).atB (rgV (n - 1)) rgT)) && !(eqV ((rgS n f).atA (rgV (n - 1)) rgT) ((rgS n f).atB (rgV (n - 1)) rgT))) = true
    rw [atA_T, atB_T]
    have : eqV zeroV rgT = false := by unfold eqV zeroV rgT; simp
    rw [this]
    rfl
end

end Go.Proofs.YtgflalfiopnmnaaGreatDoor

/-
  Freezing: how often tables are led to, and the text. No Go in sight.
-/
namespace Go.Proofs.YtgflalfiopnmnaaGreatDoor
open Vl

/-! ### The count -/

def bump (Q : Nat → Nat) (r : Nat) : Nat → Nat := fun i => if i = r then Q r + 1 else Q i

/-- How often each table has been led to, from v on. -/
def cnt (L : Nat → Nat) (X : Nat → Nat → V) : Nat → (Nat → Nat) → V → (Nat → Nat)
  | 0, Q, _ => Q
  | f + 1, Q, v => if v.k = 4 then (if Q v.a.toNat = 0 then (List.range (L v.a.toNat)).foldl (fun U c => cnt L X f U (X v.a.toNat c)) (bump Q v.a.toNat) else bump Q v.a.toNat) else Q
def cnts (L : Nat → Nat) (X : Nat → Nat → V) (f : Nat) (Q : Nat → Nat) (x : Nat → V) (c : Nat) : Nat → Nat := (List.range c).foldl (fun U c => cnt L X f U (x c)) Q

theorem cnts_zero (L : Nat → Nat) (X : Nat → Nat → V) (f : Nat) (Q : Nat → Nat) (x : Nat → V) : cnts L X f Q x 0 = Q := rfl
theorem cnts_succ (L : Nat → Nat) (X : Nat → Nat → V) (f : Nat) (Q : Nat → Nat) (x : Nat → V) (c : Nat) : cnts L X f Q x (c + 1) = cnt L X f (cnts L X f Q x c) (x c) := by
  simp [cnts, List.range_succ]
theorem cnt_new {L : Nat → Nat} {X : Nat → Nat → V} {f : Nat} {Q : Nat → Nat} {v : V} (h : v.k = 4) (h0 : Q v.a.toNat = 0) : cnt L X (f + 1) Q v = cnts L X f (bump Q v.a.toNat) (X v.a.toNat) (L v.a.toNat) := by
  show (if v.k = 4 then _ else Q) = _
  rw [if_pos h, if_pos h0]
  rfl
theorem cnt_old {L : Nat → Nat} {X : Nat → Nat → V} {f : Nat} {Q : Nat → Nat} {v : V} (h : v.k = 4) (h0 : Q v.a.toNat ≠ 0) : cnt L X (f + 1) Q v = bump Q v.a.toNat := by
  show (if v.k = 4 then _ else Q) = _
  rw [if_pos h, if_neg h0]
theorem cnt_no {L : Nat → Nat} {X : Nat → Nat → V} {f : Nat} {Q : Nat → Nat} {v : V} (h : v.k ≠ 4) : cnt L X f Q v = Q := by
  cases f with
  | zero => rfl
  | succ f =>
    show (if v.k = 4 then _ else Q) = _
    rw [if_neg h]

theorem bump_le (Q : Nat → Nat) (r i : Nat) : Q i ≤ bump Q r i := by
  unfold bump
  split
  · rename_i h; subst h; omega
  · exact Nat.le_refl _
theorem cnt_le (L : Nat → Nat) (X : Nat → Nat → V) : ∀ (f : Nat) (Q : Nat → Nat) (v : V) (i : Nat), Q i ≤ cnt L X f Q v i := by
  intro f
  induction f with
  | zero => intro Q v i; exact Nat.le_refl _
  | succ f ih =>
    intro Q v i
    by_cases h4 : v.k = 4
    · by_cases h0 : Q v.a.toNat = 0
      · rw [cnt_new h4 h0]
        have : ∀ c, Q i ≤ cnts L X f (bump Q v.a.toNat) (X v.a.toNat) c i := by
          intro c
          induction c with
          | zero => exact bump_le _ _ _
          | succ c ihc => rw [cnts_succ]; exact Nat.le_trans ihc (ih _ _ _)
        exact this _
      · rw [cnt_old h4 h0]; exact bump_le _ _ _
    · rw [cnt_no h4]; exact Nat.le_refl _
theorem cnts_le (L : Nat → Nat) (X : Nat → Nat → V) (f : Nat) (Q : Nat → Nat) (x : Nat → V) (i : Nat) {c d : Nat} (h : c ≤ d) : cnts L X f Q x c i ≤ cnts L X f Q x d i := by
  obtain ⟨e, rfl⟩ := Nat.le.dest h
  clear h
  induction e with
  | zero => exact Nat.le_refl _
  | succ e ih => rw [← Nat.add_assoc, cnts_succ]; exact Nat.le_trans ih (cnt_le _ _ _ _ _ _)

/-- S is what has been led to. -/
def Led (S : List Nat) (Q : Nat → Nat) : Prop := ∀ i, Q i = 0 ↔ i ∉ S
theorem led_add {S : List Nat} {Q : Nat → Nat} (h : Led S Q) (r : Nat) : Led (S ++ [r]) (bump Q r) := by
  intro i
  unfold bump
  by_cases e : i = r
  · subst e; simp
  · rw [if_neg e, h i]; simp [e]
theorem led_old {S : List Nat} {Q : Nat → Nat} (h : Led S Q) {r : Nat} (hr : r ∈ S) : Led S (bump Q r) := by
  intro i
  unfold bump
  by_cases e : i = r
  · subst e; simp [hr]
  · rw [if_neg e, h i]
theorem led_nil : Led [] (fun _ => 0) := fun i => by simp
theorem led_cnt {L : Nat → Nat} {X : Nat → Nat → V} : ∀ (f : Nat) {S : List Nat} {Q : Nat → Nat} (v : V), Led S Q → Led (met L X f S v) (cnt L X f Q v) := by
  intro f
  induction f with
  | zero => intro S Q v h; exact h
  | succ f ih =>
    intro S Q v h
    by_cases h4 : v.k = 4
    · by_cases h0 : Q v.a.toNat = 0
      · rw [cnt_new h4 h0, met_new h4 ((h _).1 h0)]
        have : ∀ c, Led (mets L X f (S ++ [v.a.toNat]) (X v.a.toNat) c) (cnts L X f (bump Q v.a.toNat) (X v.a.toNat) c) := by
          intro c
          induction c with
          | zero => exact led_add h _
          | succ c ihc => rw [cnts_succ, mets_succ]; exact ih _ ihc
        exact this _
      · have hm : v.a.toNat ∈ S := Classical.byContradiction fun hn => h0 ((h _).2 hn)
        rw [cnt_old h4 h0, met_old (Or.inr hm)]
        exact led_old h hm
    · rw [cnt_no h4, met_old (Or.inl h4)]; exact h
theorem led_cnts {L : Nat → Nat} {X : Nat → Nat → V} (f : Nat) {S : List Nat} {Q : Nat → Nat} (x : Nat → V) (h : Led S Q) (c : Nat) : Led (mets L X f S x c) (cnts L X f Q x c) := by
  induction c with
  | zero => exact h
  | succ c ih => rw [cnts_succ, mets_succ]; exact led_cnt f _ ih

/-- No more leads than values: a bound. -/
def sumL (L : Nat → Nat) (S : List Nat) : Nat := S.foldr (fun r a => L r + a) 0

/-! ### The text -/

def hexB (d : Nat) : UInt8 := if d < 10 then UInt8.ofNat (48 + d) else UInt8.ofNat (87 + d)
/-- A byte within a text. -/
def quB (b : UInt8) : List UInt8 := if b = 34 ∨ b = 92 then [92, b] else if b.toNat < 32 ∨ 126 < b.toNat then [92, hexB (b.toNat / 16), hexB (b.toNat % 16)] else [b]
def quB' : List UInt8 → List UInt8
  | [] => []
  | b :: l => quB b ++ quB' l
theorem quB'_snoc : ∀ (l : List UInt8) (b : UInt8), quB' (l ++ [b]) = quB' l ++ quB b
  | [], b => by simp [quB']
  | c :: l, b => by simp [quB', quB'_snoc l b]
theorem quB_len (b : UInt8) : (quB b).length ≤ 3 := by
  unfold quB
  split
  · simp
  · split <;> simp
theorem quB'_len : ∀ l : List UInt8, (quB' l).length ≤ 3 * l.length
  | [] => Nat.le_refl _
  | b :: l => by
    have := quB'_len l
    have := quB_len b
    simp only [quB', List.length_append, List.length_cons]
    omega
def quT (s : ByteArray) : List UInt8 := 34 :: (quB' s.data.toList ++ [34])
def tNil : List UInt8 := [110, 105, 108]
def tTrue : List UInt8 := [116, 114, 117, 101]
def tFalse : List UInt8 := [102, 97, 108, 115, 101]
/-- A value that is no table. -/
def plT (v : V) : List UInt8 := if v.k = 1 then (if v.n = 1 then tTrue else tFalse) else if v.k = 2 then Lib.itoa v.n else if v.k = 3 then quT v.s else tNil

theorem dec_len : ∀ (k u : Nat), u < 10 ^ (k + 1) → (Lib.decDigits u).length ≤ k + 1 := by
  intro k
  induction k with
  | zero => intro u h; rw [Lib.decDigits, dif_pos (by simpa using h)]; simp
  | succ k ih =>
    intro u h
    rw [Lib.decDigits]
    split
    · simp
    · have := ih (u / 10) (by rw [Nat.div_lt_iff_lt_mul (by decide)]; rw [Nat.pow_succ] at h; exact h)
      simp only [List.length_append, List.length_cons, List.length_nil]
      omega
theorem itoa_len {n : Int} (h0 : -9223372036854775808 ≤ n) (h1 : n ≤ 9223372036854775807) : (Lib.itoa n).length ≤ 20 := by
  unfold Lib.itoa
  split
  · have := dec_len 18 n.natAbs (by omega)
    simp only [List.length_cons]; omega
  · have := dec_len 18 n.toNat (by omega)
    omega

/-- What a value may be, for its text's length. -/
def shortV (v : V) : Prop := v.s.size ≤ 500 ∧ -9223372036854775808 ≤ v.n ∧ v.n ≤ 9223372036854775807
theorem plT_len {v : V} (h : shortV v) : (plT v).length ≤ 1502 := by
  unfold plT
  split
  · split <;> decide
  · split
    · have := itoa_len h.2.1 h.2.2; omega
    · split
      · have := quB'_len v.s.data.toList
        have h1 := h.1
        have : v.s.data.toList.length = v.s.size := by rw [Array.length_toList]; rfl
        simp only [quT, List.length_cons, List.length_append, List.length_nil]
        omega
      · decide

/-- The text as it is written: labels given so far, which, and the bytes. -/
structure Ft where
  N : Nat
  lab : Nat → Nat
  out : List UInt8
def Ft.say (t : Ft) (l : List UInt8) : Ft := ⟨t.N, t.lab, t.out ++ l⟩
/-- A table begins. -/
def Ft.head (Q : Nat → Nat) (t : Ft) (r : Nat) : Ft := if 1 < Q r then ⟨t.N + 1, fun i => if i = r then t.N + 1 else t.lab i, t.out ++ (35 :: (Lib.itoa (t.N + 1 : Nat) ++ [61])) ++ [123]⟩ else t.say [123]
/-- What stands ahead of the value of pair c. -/
def keyT (K : Nat → V) (c : Nat) : List UInt8 := (if 0 < c then [44, 32] else []) ++ plT (K c) ++ [58, 32]

def frz (Q : Nat → Nat) (L : Nat → Nat) (K X : Nat → Nat → V) : Nat → Ft → V → Ft
  | 0, t, _ => t
  | f + 1, t, v => if v.k = 4 then
      (if 0 < t.lab v.a.toNat then t.say (35 :: Lib.itoa (t.lab v.a.toNat : Nat))
       else ((List.range (L v.a.toNat)).foldl (fun u c => frz Q L K X f (u.say (keyT (K v.a.toNat) c)) (X v.a.toNat c)) (t.head Q v.a.toNat)).say [125])
      else t.say (plT v)
def wrs (Q : Nat → Nat) (L : Nat → Nat) (K X : Nat → Nat → V) (f : Nat) (t : Ft) (r c : Nat) : Ft := (List.range c).foldl (fun u c => frz Q L K X f (u.say (keyT (K r) c)) (X r c)) t
section
variable {Q : Nat → Nat} {L : Nat → Nat} {K X : Nat → Nat → V}
theorem wrs_zero (f : Nat) (t : Ft) (r : Nat) : wrs Q L K X f t r 0 = t := rfl
theorem wrs_succ (f : Nat) (t : Ft) (r c : Nat) : wrs Q L K X f t r (c + 1) = frz Q L K X f ((wrs Q L K X f t r c).say (keyT (K r) c)) (X r c) := by
  simp [wrs, List.range_succ]
theorem wr_no {f : Nat} {t : Ft} {v : V} (h : v.k ≠ 4) : frz Q L K X (f + 1) t v = t.say (plT v) := by
  show (if v.k = 4 then _ else _) = _
  rw [if_neg h]
theorem wr_old {f : Nat} {t : Ft} {v : V} (h : v.k = 4) (hl : 0 < t.lab v.a.toNat) : frz Q L K X (f + 1) t v = t.say (35 :: Lib.itoa (t.lab v.a.toNat : Nat)) := by
  show (if v.k = 4 then _ else _) = _
  rw [if_pos h, if_pos hl]
theorem wr_new {f : Nat} {t : Ft} {v : V} (h : v.k = 4) (hl : t.lab v.a.toNat = 0) : frz Q L K X (f + 1) t v = (wrs Q L K X f (t.head Q v.a.toNat) v.a.toNat (L v.a.toNat)).say [125] := by
  show (if v.k = 4 then _ else _) = _
  rw [if_pos h, if_neg (by omega)]
  rfl

theorem head_len (t : Ft) (r : Nat) : t.out.length + 1 ≤ (t.head Q r).out.length := by
  unfold Ft.head
  split <;> simp [Ft.say] <;> omega
theorem say_len (t : Ft) (l : List UInt8) : (t.say l).out.length = t.out.length + l.length := by simp [Ft.say]
theorem wr_mono : ∀ (f : Nat) (t : Ft) (v : V), t.out.length ≤ (frz Q L K X f t v).out.length := by
  intro f
  induction f with
  | zero => intro t v; exact Nat.le_refl _
  | succ f ih =>
    intro t v
    by_cases h4 : v.k = 4
    · by_cases hl : t.lab v.a.toNat = 0
      · rw [wr_new h4 hl, say_len]
        have : ∀ c, t.out.length ≤ (wrs Q L K X f (t.head Q v.a.toNat) v.a.toNat c).out.length := by
          intro c
          induction c with
          | zero => have := head_len (Q := Q) t v.a.toNat; rw [wrs_zero]; omega
          | succ c ihc =>
            rw [wrs_succ]
            have := ih ((wrs Q L K X f (t.head Q v.a.toNat) v.a.toNat c).say (keyT (K v.a.toNat) c)) (X v.a.toNat c)
            rw [say_len] at this
            omega
        have := this (L v.a.toNat)
        omega
      · rw [wr_old h4 (by omega), say_len]; omega
    · rw [wr_no h4, say_len]; omega
theorem wrs_mono (f : Nat) (t : Ft) (r : Nat) {c d : Nat} (h : c ≤ d) : (wrs Q L K X f t r c).out.length ≤ (wrs Q L K X f t r d).out.length := by
  obtain ⟨e, rfl⟩ := Nat.le.dest h
  clear h
  induction e with
  | zero => exact Nat.le_refl _
  | succ e ih =>
    rw [← Nat.add_assoc, wrs_succ]
    have := wr_mono (Q := Q) (L := L) (K := K) (X := X) f ((wrs Q L K X f t r (c + e)).say (keyT (K r) (c + e))) (X r (c + e))
    rw [say_len] at this
    omega

/-- The writer's state fits what has been met: labels have those that are led to twice. -/
structure Wok (n : Nat) (Q : Nat → Nat) (S : List Nat) (t : Ft) : Prop where
  lab : ∀ i, 0 < t.lab i ↔ i ∈ S ∧ 1 < Q i
  top : ∀ i, t.lab i ≤ t.N
  few : t.N ≤ S.length
theorem Wok.say {n : Nat} {S : List Nat} {t : Ft} (h : Wok n Q S t) (l : List UInt8) : Wok n Q S (t.say l) := ⟨h.lab, h.top, h.few⟩
theorem Wok.head {n : Nat} {S : List Nat} {t : Ft} (h : Wok n Q S t) {r : Nat} (hr : r ∉ S) : Wok n Q (S ++ [r]) (t.head Q r) := by
  unfold Ft.head
  split
  · rename_i hq
    refine ⟨fun i => ?_, fun i => ?_, by have := h.few; simp; omega⟩
    · show 0 < (if i = r then t.N + 1 else t.lab i) ↔ _
      by_cases e : i = r
      · subst e; simp [hq]
      · rw [if_neg e, h.lab i]; simp [e]
    · show (if i = r then t.N + 1 else t.lab i) ≤ t.N + 1
      have := h.top i
      split <;> omega
  · rename_i hq
    refine ⟨fun i => ?_, h.top, by have := h.few; simp [Ft.say]; omega⟩
    show 0 < t.lab i ↔ _
    rw [h.lab i]
    by_cases e : i = r
    · subst e; simp [hq]
    · simp [e]

/-- What is asked of a state at a value, with what is still to be counted. -/
structure Wat (n : Nat) (Q : Nat → Nat) (L : Nat → Nat) (X : Nat → Nat → V) (f : Nat) (S : List Nat) (Q0 : Nat → Nat) (t : Ft) (v : V) : Prop where
  fit : Fit n S
  led : Led S Q0
  ok : Wok n Q S t
  le : ∀ i, cnt L X f Q0 v i ≤ Q i
  fuel : n - S.length < f
  val : isV n v = true

/-- A table that was met has its label. -/
theorem Wat.old {n f : Nat} {S : List Nat} {Q0 : Nat → Nat} {t : Ft} {v : V} (h : Wat n Q L X (f + 1) S Q0 t v) (h4 : v.k = 4) (hm : v.a.toNat ∈ S) : 0 < t.lab v.a.toNat := by
  refine (h.ok.lab _).2 ⟨hm, ?_⟩
  have h0 : Q0 v.a.toNat ≠ 0 := fun e => ((h.led _).1 e) hm
  have := h.le v.a.toNat
  rw [cnt_old h4 h0] at this
  simp [bump] at this
  omega
/-- One that was not has none; inside of it. -/
theorem Wat.none {n f : Nat} {S : List Nat} {Q0 : Nat → Nat} {t : Ft} {v : V} (h : Wat n Q L X f S Q0 t v) (hm : v.a.toNat ∉ S) : t.lab v.a.toNat = 0 := by
  have := mt (h.ok.lab v.a.toNat).1 (fun h => hm h.1)
  omega

/-- The state in the midst of a table's pairs. -/
structure Wmid (n : Nat) (Q : Nat → Nat) (L : Nat → Nat) (X : Nat → Nat → V) (f : Nat) (S : List Nat) (Q0 : Nat → Nat) (t : Ft) (r c : Nat) : Prop where
  fit : Grows n S (mets L X f S (X r) c)
  led : Led (mets L X f S (X r) c) (cnts L X f Q0 (X r) c)
  ok : Wok n Q (mets L X f S (X r) c) t
  le : ∀ i, cnts L X f Q0 (X r) (L r) i ≤ Q i
  fuel : n - S.length < f
theorem Wat.into {n f : Nat} {S : List Nat} {Q0 : Nat → Nat} {t : Ft} {v : V} (h : Wat n Q L X (f + 1) S Q0 t v) (h4 : v.k = 4) (hm : v.a.toNat ∉ S) : Wmid n Q L X f (S ++ [v.a.toNat]) (bump Q0 v.a.toNat) (t.head Q v.a.toNat) v.a.toNat 0 := by
  obtain ⟨a0, a1⟩ := isV_tab h.val h4
  have hr : v.a.toNat < n := by omega
  have h0 := (h.led _).2 hm
  refine ⟨(h.fit.add hr hm).fit.refl, led_add h.led _, h.ok.head hm, fun i => ?_, ?_⟩
  · have := h.le i
    rw [cnt_new h4 h0] at this
    exact this
  · have := h.fit.less hr hm
    have := h.fuel
    simp
    omega
theorem Wmid.at {n f : Nat} {S : List Nat} {Q0 : Nat → Nat} {t : Ft} {r c : Nat} (hg : Good n L X) (hr : r < n) (h : Wmid n Q L X f S Q0 t r c) (hc : c < L r) (l : List UInt8) : Wat n Q L X f (mets L X f S (X r) c) (cnts L X f Q0 (X r) c) (t.say l) (X r c) := by
  refine ⟨h.fit.fit, h.led, h.ok.say l, fun i => ?_, ?_, hg r hr c hc⟩
  · rw [← cnts_succ]
    exact Nat.le_trans (cnts_le _ _ _ _ _ _ hc) (h.le i)
  · have := h.fit.len
    have := h.fuel
    omega

/-- What a value leaves. -/
theorem wr_ok {n : Nat} (hg : Good n L X) : ∀ (f : Nat) {S : List Nat} {Q0 : Nat → Nat} {t : Ft} {v : V}, Wat n Q L X f S Q0 t v → Wok n Q (met L X f S v) (frz Q L K X f t v) := by
  intro f
  induction f with
  | zero => intro S Q0 t v h; have := h.fuel; omega
  | succ f ih =>
    intro S Q0 t v h
    by_cases h4 : v.k = 4
    · by_cases hm : v.a.toNat ∈ S
      · rw [wr_old h4 (h.old h4 hm), met_old (Or.inr hm)]; exact h.ok.say _
      · rw [wr_new h4 (h.none hm), met_new h4 hm]
        obtain ⟨a0, a1⟩ := isV_tab h.val h4
        have hr : v.a.toNat < n := by omega
        have : ∀ c, c ≤ L v.a.toNat → Wmid n Q L X f (S ++ [v.a.toNat]) (bump Q0 v.a.toNat) (wrs Q L K X f (t.head Q v.a.toNat) v.a.toNat c) v.a.toNat c := by
          intro c
          induction c with
          | zero => intro _; exact h.into h4 hm
          | succ c ihc =>
            intro hc
            have hw := ihc (by omega)
            have ha := hw.at hg hr (by omega) (keyT (K v.a.toNat) c)
            have := ih ha
            refine ⟨?_, ?_, ?_, hw.le, hw.fuel⟩
            · rw [mets_succ]; exact hw.fit.trans (met_all hg f _ _ ha.fit ha.val ha.fuel).1
            · rw [mets_succ, cnts_succ]; exact led_cnt f _ hw.led
            · rw [mets_succ, wrs_succ]; exact this
        exact (this _ (Nat.le_refl _)).ok.say _
    · rw [wr_no h4, met_old (Or.inl h4)]; exact h.ok.say _
theorem Wmid.next {n f : Nat} {S : List Nat} {Q0 : Nat → Nat} {t : Ft} {r c : Nat} (hg : Good n L X) (hr : r < n) (h : Wmid n Q L X f S Q0 t r c) (hc : c < L r) (l : List UInt8) : Wmid n Q L X f S Q0 (frz Q L K X f (t.say l) (X r c)) r (c + 1) := by
  have ha := h.at hg hr hc l
  refine ⟨?_, ?_, ?_, h.le, h.fuel⟩
  · rw [mets_succ]; exact h.fit.trans (met_all hg f _ _ ha.fit ha.val ha.fuel).1
  · rw [mets_succ, cnts_succ]; exact led_cnt f _ h.led
  · rw [mets_succ]; exact wr_ok hg f ha

set_option maxRecDepth 20000 in
theorem len_arith {A B C T c o1 o2 kl : Nat} (h1 : o2 ≤ o1 + kl + 1502 + 400000 * (A - B)) (hl : o1 ≤ T + 23 + 3010 * c + 400000 * (B - C)) (hk : kl ≤ 1506) (g1 : C ≤ B) (g2 : B ≤ A) : o2 ≤ T + 23 + 3010 * (c + 1) + 400000 * (A - C) := by
  have e : 400000 * (A - C) = 400000 * (A - B) + 400000 * (B - C) := by rw [← Nat.mul_add, show A - B + (B - C) = A - C by omega]
  generalize 400000 * (A - C) = x at *
  generalize 400000 * (A - B) = y at *
  generalize 400000 * (B - C) = z at *
  omega
/-- The text's length: so much for each table that is met. -/
theorem wr_len {n : Nat} (hn : n ≤ 200) (hg : Good n L X) (hL : ∀ r, r < n → L r ≤ 100) (hK : ∀ r, r < n → ∀ c, c < L r → shortV (K r c)) (hX : ∀ r, r < n → ∀ c, c < L r → shortV (X r c)) :
    ∀ (f : Nat) {S : List Nat} {Q0 : Nat → Nat} {t : Ft} {v : V}, Wat n Q L X f S Q0 t v → shortV v → (frz Q L K X f t v).out.length ≤ t.out.length + 1502 + 400000 * ((met L X f S v).length - S.length) := by
  have hlab : ∀ k, k ≤ 201 → (Lib.itoa (k : Nat)).length ≤ 20 := fun k hk => itoa_len (by omega) (by omega)
  intro f
  induction f with
  | zero => intro S Q0 t v h; have := h.fuel; omega
  | succ f ih =>
    intro S Q0 t v h hs
    by_cases h4 : v.k = 4
    · by_cases hm : v.a.toNat ∈ S
      · rw [wr_old h4 (h.old h4 hm), say_len]
        have := h.ok.top v.a.toNat
        have := h.ok.few
        have := h.fit.len
        have := hlab (t.lab v.a.toNat) (by omega)
        simp only [List.length_cons]
        omega
      · rw [wr_new h4 (h.none hm), met_new h4 hm]
        obtain ⟨a0, a1⟩ := isV_tab h.val h4
        have hr : v.a.toNat < n := by omega
        have hhd : (t.head Q v.a.toNat).out.length ≤ t.out.length + 23 := by
          have := h.ok.few
          have := h.fit.len
          have := hlab (t.N + 1) (by omega)
          unfold Ft.head
          split
          · simp only [List.length_append, List.length_cons, List.length_nil]; omega
          · rw [say_len]; simp
        have : ∀ c, c ≤ L v.a.toNat → Wmid n Q L X f (S ++ [v.a.toNat]) (bump Q0 v.a.toNat) (wrs Q L K X f (t.head Q v.a.toNat) v.a.toNat c) v.a.toNat c ∧
            (wrs Q L K X f (t.head Q v.a.toNat) v.a.toNat c).out.length ≤ t.out.length + 23 + 3010 * c + 400000 * ((mets L X f (S ++ [v.a.toNat]) (X v.a.toNat) c).length - (S ++ [v.a.toNat]).length) := by
          intro c
          induction c with
          | zero => intro _; exact ⟨h.into h4 hm, by rw [wrs_zero, mets_zero]; omega⟩
          | succ c ihc =>
            intro hc
            obtain ⟨hw, hlen⟩ := ihc (by omega)
            have ha := hw.at hg hr (by omega) (keyT (K v.a.toNat) c)
            have h1 := ih ha (hX _ hr c (by omega))
            have g1 := hw.fit.len
            have g2 := (met_all hg f _ _ ha.fit ha.val ha.fuel).1.len
            have hk : (keyT (K v.a.toNat) c).length ≤ 1506 := by
              have := plT_len (hK _ hr c (by omega))
              unfold keyT
              split <;> simp only [List.length_append, List.length_cons, List.length_nil] <;> omega
            refine ⟨hw.next hg hr (by omega) _ |> (fun x => by rw [wrs_succ]; exact x), ?_⟩
            rw [wrs_succ, mets_succ]
            rw [say_len] at h1
            exact len_arith h1 hlen hk g1 g2
        obtain ⟨hw, hlen⟩ := this _ (Nat.le_refl _)
        have g1 := hw.fit.len
        have h100 := hL _ hr
        rw [say_len]
        simp only [List.length_append, List.length_cons, List.length_nil] at g1 hlen ⊢
        omega
    · rw [wr_no h4, say_len, met_old (Or.inl h4)]
      have := plT_len hs
      omega
end

/-- A frozen graph: counted, then written. -/
def cntAll (n : Nat) (u : V) (L : Nat → Nat) (X : Nat → Nat → V) : Nat → Nat := cnt L X (n + 1) (fun _ => 0) u
def ft0 : Ft := ⟨0, fun _ => 0, []⟩
def wrAll (n : Nat) (u : V) (L : Nat → Nat) (K X : Nat → Nat → V) : Ft := frz (cntAll n u L X) L K X (n + 1) ft0 u
theorem wat0 {n : Nat} {u : V} {L : Nat → Nat} {X : Nat → Nat → V} (hu : isV n u = true) : Wat n (cntAll n u L X) L X (n + 1) [] (fun _ => 0) ft0 u :=
  ⟨Fit.nil n, led_nil, ⟨fun i => by simp [ft0], fun i => by simp [ft0], by simp [ft0]⟩, fun i => Nat.le_refl _, by simp, hu⟩

/-- The count's state at a value, its end bounded. -/
structure Cat (n : Nat) (L : Nat → Nat) (X : Nat → Nat → V) (f : Nat) (S : List Nat) (Q : Nat → Nat) (v : V) : Prop where
  fit : Fit n S
  led : Led S Q
  le : ∀ i, cnt L X f Q v i ≤ 100000
  fuel : n - S.length < f
  val : isV n v = true
structure Cmid (n : Nat) (L : Nat → Nat) (X : Nat → Nat → V) (f : Nat) (S : List Nat) (Q : Nat → Nat) (r c : Nat) : Prop where
  fit : Grows n S (mets L X f S (X r) c)
  led : Led (mets L X f S (X r) c) (cnts L X f Q (X r) c)
  le : ∀ i, cnts L X f Q (X r) (L r) i ≤ 100000
  fuel : n - S.length < f
section
variable {L : Nat → Nat} {X : Nat → Nat → V}
theorem Cat.into {n f : Nat} {S : List Nat} {Q : Nat → Nat} {v : V} (h : Cat n L X (f + 1) S Q v) (h4 : v.k = 4) (hm : v.a.toNat ∉ S) : Cmid n L X f (S ++ [v.a.toNat]) (bump Q v.a.toNat) v.a.toNat 0 := by
  obtain ⟨a0, a1⟩ := isV_tab h.val h4
  have hr : v.a.toNat < n := by omega
  have h0 := (h.led _).2 hm
  refine ⟨(h.fit.add hr hm).fit.refl, led_add h.led _, fun i => ?_, ?_⟩
  · have := h.le i
    rw [cnt_new h4 h0] at this
    exact this
  · have := h.fit.less hr hm
    have := h.fuel
    simp
    omega
theorem Cmid.at {n f : Nat} {S : List Nat} {Q : Nat → Nat} {r c : Nat} (hg : Good n L X) (hr : r < n) (h : Cmid n L X f S Q r c) (hc : c < L r) : Cat n L X f (mets L X f S (X r) c) (cnts L X f Q (X r) c) (X r c) := by
  refine ⟨h.fit.fit, h.led, fun i => ?_, ?_, hg r hr c hc⟩
  · rw [← cnts_succ]
    exact Nat.le_trans (cnts_le _ _ _ _ _ _ hc) (h.le i)
  · have := h.fit.len
    have := h.fuel
    omega
theorem Cmid.next {n f : Nat} {S : List Nat} {Q : Nat → Nat} {r c : Nat} (hg : Good n L X) (hr : r < n) (h : Cmid n L X f S Q r c) (hc : c < L r) : Cmid n L X f S Q r (c + 1) := by
  have ha := h.at hg hr hc
  refine ⟨?_, ?_, h.le, h.fuel⟩
  · rw [mets_succ]; exact h.fit.trans (met_all hg f _ _ ha.fit ha.val ha.fuel).1
  · rw [mets_succ, cnts_succ]; exact led_cnt f _ h.led
theorem Cat.old {n f : Nat} {S : List Nat} {Q : Nat → Nat} {v : V} (h : Cat n L X (f + 1) S Q v) (h4 : v.k = 4) : Q v.a.toNat + 1 ≤ 100000 := by
  have hb : bump Q v.a.toNat v.a.toNat ≤ cnt L X (f + 1) Q v v.a.toNat := by
    by_cases h0 : Q v.a.toNat = 0
    · rw [cnt_new h4 h0]; exact cnts_le L X f (bump Q v.a.toNat) (X v.a.toNat) _ (Nat.zero_le _)
    · rw [cnt_old h4 h0]; exact Nat.le_refl _
  have := h.le v.a.toNat
  simp [bump] at hb
  omega

theorem cnt_bound {n : Nat} (hg : Good n L X) (hL : ∀ r, r < n → L r ≤ 100) : ∀ (f : Nat) {S : List Nat} {Q : Nat → Nat} {v : V}, Fit n S → Led S Q → isV n v = true → n - S.length < f → ∀ i, cnt L X f Q v i ≤ Q i + 1 + 100 * ((met L X f S v).length - S.length) := by
  intro f
  induction f with
  | zero => intro S Q v _ _ _ h; omega
  | succ f ih =>
    intro S Q v hS hQ hv hf i
    by_cases h4 : v.k = 4
    · by_cases hm : v.a.toNat ∈ S
      · rw [cnt_old h4 (fun e => ((hQ _).1 e) hm)]
        unfold bump
        split
        · rename_i e; subst e; omega
        · omega
      · obtain ⟨a0, a1⟩ := isV_tab hv h4
        have hr : v.a.toNat < n := by omega
        rw [cnt_new h4 ((hQ _).2 hm), met_new h4 hm]
        have h1 := hS.add hr hm
        have hl := hS.less hr hm
        have : ∀ c, c ≤ L v.a.toNat → Grows n (S ++ [v.a.toNat]) (mets L X f (S ++ [v.a.toNat]) (X v.a.toNat) c) ∧ cnts L X f (bump Q v.a.toNat) (X v.a.toNat) c i ≤ Q i + 1 + c + 100 * ((mets L X f (S ++ [v.a.toNat]) (X v.a.toNat) c).length - (S ++ [v.a.toNat]).length) := by
          intro c
          induction c with
          | zero =>
            intro _
            refine ⟨h1.fit.refl, ?_⟩
            rw [cnts_zero]
            unfold bump
            split
            · rename_i e; subst e; omega
            · omega
          | succ c ihc =>
            intro hc
            obtain ⟨g, hb⟩ := ihc (by omega)
            have hgl := g.len
            have hlen : (S ++ [v.a.toNat]).length = S.length + 1 := by simp
            have hfu : n - (mets L X f (S ++ [v.a.toNat]) (X v.a.toNat) c).length < f := by omega
            have g2 := (met_all hg f _ (X v.a.toNat c) g.fit (hg _ hr c (by omega)) hfu).1
            have := ih g.fit (led_cnts f (X v.a.toNat) (led_add hQ v.a.toNat) c) (hg _ hr c (by omega)) hfu i
            have g2l := g2.len
            refine ⟨by rw [mets_succ]; exact g.trans g2, ?_⟩
            rw [cnts_succ, mets_succ]
            omega
        obtain ⟨g, hb⟩ := this _ (Nat.le_refl _)
        have hgl := g.len
        have h100 := hL _ hr
        simp only [List.length_append, List.length_cons, List.length_nil] at hgl hb ⊢
        omega
    · rw [cnt_no h4]; omega
theorem cat0 {n : Nat} {u : V} (hn : n ≤ 200) (hg : Good n L X) (hL : ∀ r, r < n → L r ≤ 100) (hu : isV n u = true) : Cat n L X (n + 1) [] (fun _ => 0) u :=
  ⟨Fit.nil n, led_nil, fun i => by
    have h := cnt_bound hg hL (n + 1) (Fit.nil n) led_nil hu (by simp) i
    have := (met_all hg (n + 1) [] u (Fit.nil n) hu (by simp)).1.fit.len
    simp only [List.length_nil, Nat.sub_zero] at h
    omega, by simp, hu⟩
end

end Go.Proofs.YtgflalfiopnmnaaGreatDoor

/-
  A ring, shrunk, and its text; one with a pair more, shrunk. No Go in sight.
-/
namespace Go.Proofs.YtgflalfiopnmnaaGreatDoor
open Vl

theorem ra_cls {n : Nat} (h0 : 0 < n) {f : Nat → Nat} {ls : Nat → List Nat} (hc : IsCls n raL (sK raK ls) (sK (raX n) ls) f) {i : Nat} (hi : i < n) : f i = 0 := by
  have h1 : f i = f 0 := by
    refine hc.wide (fun i j => i < n ∧ j < n) ?_ i 0 ⟨hi, h0⟩
    rintro i j ⟨hi, hj⟩
    refine ⟨hi, hj, rfl, fun c _ => ⟨rfl, rfl, fun _ => ⟨?_, ?_⟩, fun h => absurd rfl h⟩⟩
    · show (((i + 1) % n : Nat) : Int).toNat < n
      have := Nat.mod_lt (i + 1) h0
      omega
    · show (((j + 1) % n : Nat) : Int).toNat < n
      have := Nat.mod_lt (j + 1) h0
      omega
  have := hc.low 0 h0
  omega

theorem met_self {n : Nat} {L : Nat → Nat} {X : Nat → Nat → V} (hL : L 0 = 1) (hX : X 0 0 = rgV 0) : order n (rgV 0) L X = [0] := by
  unfold order
  rw [met_new (L := L) (X := X) (f := n) (S := []) (v := rgV 0) rfl (by simp), show (rgV 0).a.toNat = 0 from rfl, hL, mets_succ, mets_zero, hX]
  exact met_old (Or.inr (by simp [show (rgV 0).a.toNat = 0 from rfl]))

theorem itoa_one : Lib.itoa 1 = [49] := by
  unfold Lib.itoa
  rw [if_neg (by omega), Lib.decDigits, dif_pos (by decide)]
  rfl
theorem plT_K : plT rgK = [49] := by
  show (if (2 : Int) = 1 then _ else if (2 : Int) = 2 then Lib.itoa 1 else _) = _
  rw [if_neg (by decide), if_pos rfl, itoa_one]

theorem frz_one {L : Nat → Nat} {K X : Nat → Nat → V} (hL : L 0 = 1) (hK : K 0 0 = rgK) (hX : X 0 0 = rgV 0) : (wrAll 1 (rgV 0) L K X).out = [35, 49, 61, 123, 49, 58, 32, 35, 49, 125] := by
  have e0 : (rgV 0).a.toNat = 0 := rfl
  have hQ : cntAll 1 (rgV 0) L X 0 = 2 := by
    unfold cntAll
    rw [cnt_new (L := L) (X := X) (f := 1) (Q := fun _ => 0) (v := rgV 0) rfl rfl, e0, hL, cnts_succ, cnts_zero, hX]
    rw [cnt_old (L := L) (X := X) (f := 0) (v := rgV 0) rfl (by rw [e0]; simp [bump]), e0]
    simp [bump]
  unfold wrAll
  generalize cntAll 1 (rgV 0) L X = Q at *
  rw [wr_new (Q := Q) (L := L) (K := K) (X := X) (f := 1) (t := ft0) (v := rgV 0) rfl rfl, e0, hL, wrs_succ, wrs_zero, hX]
  have hh : ft0.head Q 0 = ⟨1, fun i => if i = 0 then 1 else 0, [35, 49, 61, 123]⟩ := by
    unfold Ft.head
    rw [if_pos (by omega)]
    show Ft.mk 1 _ _ = _
    have : Lib.itoa ((0 + 1 : Nat) : Int) = [49] := itoa_one
    simp only [ft0, this]
    rfl
  rw [hh, wr_old (Q := Q) (L := L) (K := K) (X := X) (f := 0) (v := rgV 0) rfl (by rw [e0]; simp [Ft.say])]
  have hl : Lib.itoa ((1 : Nat) : Int) = [49] := itoa_one
  simp only [Ft.say, e0, if_true, hl, keyT, hK, plT_K]
  rfl

/-- With one pair more all tables are met. -/
theorem rb_order {n : Nat} {u : V} {L : Nat → Nat} {K X : Nat → Nat → V} (hok : OkG n u L K X) (hu : u = rgV 0) (hn : ∀ i, i + 1 < n → ∃ c, c < L i ∧ X i c = rgV (i + 1)) : (order n u L X).length = n := by
  obtain ⟨h1, h2, h3⟩ := order_all hok
  have hm : ∀ i, i < n → i ∈ order n u L X := by
    intro i
    induction i with
    | zero => intro _; have := h3 (by rw [hu]; rfl); rw [hu] at this ⊢; exact this
    | succ i ih =>
      intro hi
      obtain ⟨c, hc, e⟩ := hn i hi
      have := h2 i (ih (by omega)) c hc (by rw [e]; rfl)
      rw [e, rgV_at] at this
      exact this
  have a := h1.len
  have b := nodup_len (List.range n) (order n u L X) List.nodup_range (fun r hr => hm r (List.mem_range.1 hr))
  rw [List.length_range] at b
  omega

end Go.Proofs.YtgflalfiopnmnaaGreatDoor
