import Derived.Test.YtgflalfiopnmnaaP12
import Derived.Test.YtgflalfiopnmnaaP5
namespace Go.Proofs.Ytgflalfiopnmnaa.Aw
open Vl

theorem ifold_pre {S : Sys} (e : E) : ∀ (ks : List V) (q : List E), ∃ t, ks.foldl (fun l k => S.iadd l (S.child e k)) q = q ++ t ∧ (∀ c ∈ t, ∃ k ∈ ks, c = S.child e k) ∧ ∀ k ∈ ks, S.live (S.child e k) = true → (q ++ t).any (same (S.child e k)) = true
  | [], q => ⟨[], by simp, by simp, by simp⟩
  | k :: ks, q => by
    obtain ⟨s, hs, hs2, hs3⟩ : ∃ s, S.iadd q (S.child e k) = q ++ s ∧ (∀ c ∈ s, c = S.child e k) ∧ (S.live (S.child e k) = true → (q ++ s).any (same (S.child e k)) = true) := by
      unfold Sys.iadd
      split
      · refine ⟨[S.child e k], rfl, fun c hc => by simpa using hc, fun _ => ?_⟩
        rw [List.any_append]
        simp [same, eqV_refl]
      · rename_i h
        refine ⟨[], by simp, by simp, fun hl => ?_⟩
        rw [List.append_nil]
        unfold Sys.live at hl
        rw [hl] at h
        simpa using h
    obtain ⟨t, ht, h2, h3⟩ := ifold_pre e ks (q ++ s)
    refine ⟨s ++ t, ?_, ?_, ?_⟩
    · rw [List.foldl_cons, hs, ht, List.append_assoc]
    · intro c hc
      rcases List.mem_append.1 hc with hc | hc
      · exact ⟨k, by simp, hs2 c hc⟩
      · obtain ⟨k', hk', e'⟩ := h2 c hc
        exact ⟨k', by simp [hk'], e'⟩
    · intro k' hk' hl
      rw [← List.append_assoc]
      rcases List.mem_cons.1 hk' with rfl | hk'
      · rw [List.any_append, hs3 hl]; rfl
      · exact h3 k' hk' hl

theorem igrow_pre {S : Sys} (q : List E) (e : E) : ∃ t, S.igrow q e = q ++ t ∧ (∀ c ∈ t, ∃ k ∈ S.kids e.a e.b, c = S.child e k) ∧ ∀ k ∈ S.kids e.a e.b, S.live (S.child e k) = true → (q ++ t).any (same (S.child e k)) = true := ifold_pre e _ q

theorem IReach.seen {S : Sys} {r : E} {j : Nat} {q : List E} (h : IReach S r j q) : ∀ i, i < j → ∃ e, q[i]? = some e ∧ ∀ k ∈ S.kids e.a e.b, S.part (S.child e k) = false ∧ (S.live (S.child e k) = true → q.any (same (S.child e k)) = true) := by
  induction h with
  | start => intro i hi; omega
  | @step j q e h1 h2 h3 ih =>
    obtain ⟨t, ht, _, t3⟩ := igrow_pre (S := S) q e
    rw [ht]
    intro i hi
    by_cases e' : i = j
    · subst e'
      refine ⟨e, ?_, fun k hk => ⟨h3 k hk, t3 k hk⟩⟩
      obtain ⟨hlt, _⟩ := List.getElem?_eq_some_iff.1 h2
      rw [List.getElem?_append_left hlt]
      exact h2
    · obtain ⟨x, hx, hk⟩ := ih i (by omega)
      obtain ⟨hlt, _⟩ := List.getElem?_eq_some_iff.1 hx
      refine ⟨x, by rw [List.getElem?_append_left hlt]; exact hx, fun k hk' => ⟨(hk k hk').1, fun hl => ?_⟩⟩
      rw [List.any_append, (hk k hk').2 hl]
      rfl

theorem IReach.closed {S : Sys} {r : E} {j : Nat} {q : List E} (h : IReach S r j q) (hj : q.length ≤ j) : ∀ e ∈ q, ∀ k ∈ S.kids e.a e.b, S.part (S.child e k) = false ∧ (S.live (S.child e k) = true → ∃ x ∈ q, x.a = S.atA e.a k ∧ x.b = S.atB e.b k) := by
  intro e he k hk
  obtain ⟨i, hi, e1⟩ := List.mem_iff_getElem.1 he
  obtain ⟨x, hx, hall⟩ := h.seen i (by omega)
  rw [List.getElem?_eq_getElem hi, e1] at hx
  obtain rfl := Option.some.inj hx
  refine ⟨(hall k hk).1, fun hl => ?_⟩
  obtain ⟨x, hx, hs⟩ := List.any_eq_true.1 ((hall k hk).2 hl)
  unfold same at hs
  rw [Bool.and_eq_true] at hs
  exact ⟨x, hx, eqV_iff.1 hs.1, eqV_iff.1 hs.2⟩

theorem IReach.first {S : Sys} {r : E} {j : Nat} {q : List E} (h : IReach S r j q) (hl : S.live r = true) : r ∈ q := by
  induction h with
  | start =>
    unfold Sys.iadd
    unfold Sys.live at hl
    rw [hl]
    simp
  | @step j q e h1 h2 h3 ih =>
    obtain ⟨t, ht, _, _⟩ := igrow_pre (S := S) q e
    rw [ht]
    exact List.mem_append.2 (Or.inl ih)

theorem IReach.dead {S : Sys} {r : E} {j : Nat} {q : List E} (h : IReach S r j q) (hl : S.live r = false) : q = [] := by
  induction h with
  | start =>
    unfold Sys.iadd
    unfold Sys.live at hl
    rw [hl]
    simp
  | @step j q e h1 h2 h3 ih =>
    rw [ih] at h2
    simp at h2

theorem IDone.dead {S : Sys} {r : E} {ans : List V} (h : IDone S r ans) (hl : S.live r = false) : ans = [] := by
  rcases h with ⟨j, q, e, pre, k, post, h1, h2, _⟩ | ⟨j, q, _, _, rfl⟩
  · rw [h1.dead hl] at h2
    simp at h2
  · rfl

section
variable {n m : Nat} {u u' : V} {L : Nat → Nat} {K X : Nat → Nat → V} {L' : Nat → Nat} {K' X' : Nat → Nat → V} {f : Nat → Nat}

theorem kidsOf_comm {xs ys : List V} (h : ∀ k ∈ xs ++ ys, isK k = true) : kidsOf (xs ++ ys) = kidsOf (ys ++ xs) := by
  refine strict_one (kidsOf_strict _ h) (kidsOf_strict _ (fun k hk => h k ?_)) (fun x => ?_)
  · rw [List.mem_append] at hk ⊢; exact hk.symm
  · rw [mem_kidsOf, mem_kidsOf, List.mem_append, List.mem_append]; exact Or.comm

/-- Two tables that no key parts, sorted: the same keys. -/
theorem keys_one {l l' : Nat} {k x k' x' : Nat → V} {ls ls' : List Nat} (h : OkT n l k x) (h' : OkT m l' k' x') (hs : SortI k l ls) (hs' : SortI k' l' ls') (hno : ∀ z ∈ kidsOf (keys k l ++ keys k' l'), ¬ (¬ ((atKey l k x z).k = 4 ∧ (atKey l' k' x' z).k = 4) ∧ atKey l k x z ≠ atKey l' k' x' z)) : l = l' ∧ ∀ c, c < l → byI k ls c = byI k' ls' c := by
  have hk : ∀ z ∈ keys k l ++ keys k' l', isK z = true := fun z hz => by
    rcases List.mem_append.1 hz with hz | hz
    · obtain ⟨c, hc, rfl⟩ := mem_keys.1 hz; exact (h.all c hc).key
    · obtain ⟨c, hc, rfl⟩ := mem_keys.1 hz; exact (h'.all c hc).key
  have e1 := order_kids h h' hs hno
  have e2 := order_kids h' h hs' (fun z hz hp => by
    rw [← kidsOf_comm hk] at hz
    exact hno z hz ⟨fun hh => hp.1 ⟨hh.2, hh.1⟩, fun hh => hp.2 hh.symm⟩)
  rw [← kidsOf_comm hk, ← e1] at e2
  have hl : l = l' := by
    have := congrArg List.length e2
    rw [keys_len, keys_len] at this
    exact this.symm
  subst hl
  refine ⟨rfl, fun c hc => ?_⟩
  have := congrArg (fun l => l[c]?) e2
  unfold keys at this
  simp only [List.getElem?_map, List.getElem?_range hc, Option.map_some] at this
  exact (Option.some.inj this).symm

/-- A way that ends nowhere: nothing stood in line. -/
theorem IReach.nobody (h : OkG n u L K X) (h' : OkG m u' L' K' X') (hc : ClsAre (n + m) (jn n L L') (jn n K K') (jn n X (fun j c => sh n (X' j c))) f) {j : Nat} {q : List E} (hI : IReach (sysOf n L K X L' K' X' f) ⟨u, u', []⟩ j q) (hj : q.length ≤ j) : q = [] := by
  have hW := hI.wide (sys_next h h') (sys_ix n m L K X L' K' X' f) (show goodV n m u u' from ⟨h.root, h'.root⟩) rfl
  have hcl := hI.closed hj
  obtain ⟨ls, hs, hcls⟩ := hc
  have hgood : Good (n + m) (jn n L L') (sK (jn n X (fun j c => sh n (X' j c))) ls) := fun r hr c hc => ((okT_join h h' r hr).all _ ((hs r hr).lt hc)).val
  have hbis : Bis (n + m) (jn n L L') (sK (jn n K K') ls) (sK (jn n X (fun j c => sh n (X' j c))) ls) (fun i j => (i < n + m ∧ j < n + m ∧ f i = f j) ∨ ∃ e ∈ q, i = e.a.a.toNat ∧ j = n + e.b.a.toNat) := by
    rintro i j (hij | ⟨e, he, rfl, rfl⟩)
    · obtain ⟨h1, h2, h3, h4⟩ := hcls.rel hgood i j hij
      exact ⟨h1, h2, h3, fun c hc => ⟨(h4 c hc).1, (h4 c hc).2.1, fun e => Or.inl ((h4 c hc).2.2.1 e), (h4 c hc).2.2.2⟩⟩
    · have hl := hW.live e he
      obtain ⟨g1, g2⟩ := hW.wide.good e he
      have t1 : e.a.k = 4 := by unfold Sys.live Sys.cp sysOf at hl; simp at hl; exact hl.1.1
      have t2 : e.b.k = 4 := by unfold Sys.live Sys.cp sysOf at hl; simp at hl; exact hl.1.2
      obtain ⟨a0, a1⟩ := isV_tab g1 t1
      obtain ⟨b0, b1⟩ := isV_tab g2 t2
      have hk := hcl e he
      obtain ⟨i, hi⟩ : ∃ i, e.a.a.toNat = i := ⟨_, rfl⟩
      obtain ⟨j, hj'⟩ : ∃ j, e.b.a.toNat = j := ⟨_, rfl⟩
      have hin : i < n := by omega
      have hjm : j < m := by omega
      have hk : ∀ k ∈ kidsOf (keys (K i) (L i) ++ keys (K' j) (L' j)), (sysOf n L K X L' K' X' f).part ⟨atKey (L i) (K i) (X i) k, atKey (L' j) (K' j) (X' j) k, e.p ++ [k]⟩ = false ∧ ((sysOf n L K X L' K' X' f).live ⟨atKey (L i) (K i) (X i) k, atKey (L' j) (K' j) (X' j) k, e.p ++ [k]⟩ = true → ∃ x ∈ q, x.a = atKey (L i) (K i) (X i) k ∧ x.b = atKey (L' j) (K' j) (X' j) k) := by
        subst hi hj'
        exact hk
      rw [hi, hj']
      have o1 := h.all i hin
      have o2 := h'.all j hjm
      have s1 := hs i (by omega)
      have s2 := hs (n + j) (by omega)
      rw [jn_lt hin, jn_lt hin] at s1
      rw [jn_add, jn_add] at s2
      obtain ⟨hlen, hkeys⟩ := keys_one o1 o2 s1 s2 (fun z hz hp => by
        have h1 := (hk z hz).1
        unfold Sys.part sysOf at h1
        simp only [Bool.and_eq_false_iff, Bool.not_eq_false', Bool.and_eq_true, beq_iff_eq] at h1
        rcases h1 with h1 | h1
        · exact hp.1 h1
        · exact hp.2 (eqV_iff.1 h1))
      refine ⟨by omega, by omega, by rw [jn_lt hin, jn_add]; exact hlen, fun c hc => ?_⟩
      rw [jn_lt hin] at hc
      have lc := s1.lt hc
      have lc' := s2.lt (i := c) (by omega)
      have ek := hkeys c hc
      unfold byI at ek
      unfold sK byI
      rw [jn_lt hin, jn_lt hin, jn_add, jn_add]
      have r1 : atKey (L i) (K i) (X i) (K i ((ls i).getD c 0)) = X i ((ls i).getD c 0) := atKey_at o1 lc
      have r2 : atKey (L' j) (K' j) (X' j) (K i ((ls i).getD c 0)) = X' j ((ls (n + j)).getD c 0) := by rw [ek]; exact atKey_at o2 lc'
      have v2 := (o2.all _ lc').val
      have v1 := (o1.all _ lc).val
      obtain ⟨p1, p2⟩ := hk (K i ((ls i).getD c 0)) ((mem_kidsOf _ _).2 (List.mem_append.2 (Or.inl (mem_keys.2 ⟨_, lc, rfl⟩))))
      rw [r1, r2] at p1 p2
      refine ⟨ek, ?_⟩
      unfold Sys.part sysOf at p1
      simp only [Bool.and_eq_false_iff, Bool.not_eq_false', Bool.and_eq_true, beq_iff_eq] at p1
      unfold Sys.live Sys.cp sysOf at p2
      simp only [Bool.and_eq_true, beq_iff_eq, Bool.not_eq_true', beq_eq_false_iff_ne] at p2
      rw [sh_k]
      have both : (X i ((ls i).getD c 0)).k = 4 → (X' j ((ls (n + j)).getD c 0)).k = 4 → (X i ((ls i).getD c 0)).a.toNat < n + m ∧ (sh n (X' j ((ls (n + j)).getD c 0))).a.toNat = n + (X' j ((ls (n + j)).getD c 0)).a.toNat ∧ n + (X' j ((ls (n + j)).getD c 0)).a.toNat < n + m := fun z1 z2 => by
        obtain ⟨c0, c1⟩ := isV_tab v1 z1
        obtain ⟨d0, d1⟩ := isV_tab v2 z2
        refine ⟨by omega, ?_, by omega⟩
        unfold sh
        rw [if_pos z2]
        simp only
        omega
      rcases p1 with p1 | p1
      · refine ⟨p1.1.trans p1.2.symm, fun _ => ?_, fun h4 => absurd p1.1 h4⟩
        obtain ⟨y1, y2, y3⟩ := both p1.1 p1.2
        rw [y2]
        by_cases hD : f (X i ((ls i).getD c 0)).a.toNat = f (n + (X' j ((ls (n + j)).getD c 0)).a.toNat)
        · exact Or.inl ⟨y1, y3, hD⟩
        · obtain ⟨x, hx, e1, e2⟩ := p2 ⟨p1, hD⟩
          exact Or.inr ⟨x, hx, by rw [e1], by rw [e2]⟩
      · have p1 := eqV_iff.1 p1
        refine ⟨by rw [p1], fun h4 => ?_, fun h4 => ?_⟩
        · have h4' : (X' j ((ls (n + j)).getD c 0)).k = 4 := by rw [← p1]; exact h4
          obtain ⟨y1, y2, y3⟩ := both h4 h4'
          rw [y2]
          by_cases hD : f (X i ((ls i).getD c 0)).a.toNat = f (n + (X' j ((ls (n + j)).getD c 0)).a.toNat)
          · exact Or.inl ⟨y1, y3, hD⟩
          · obtain ⟨x, hx, e1, e2⟩ := p2 ⟨⟨h4, h4'⟩, hD⟩
            exact Or.inr ⟨x, hx, by rw [e1], by rw [e2]⟩
        · rw [p1] at h4 ⊢
          unfold sh
          rw [if_neg h4]
  cases q with
  | nil => rfl
  | cons e q =>
    have hl := hW.live e (by simp)
    have he := hcls.wide _ hbis e.a.a.toNat (n + e.b.a.toNat) (Or.inr ⟨e, by simp, rfl, rfl⟩)
    unfold Sys.live Sys.cp sysOf at hl
    simp at hl
    exact absurd he hl.2

theorem ireach_way (h : OkG n u L K X) (h' : OkG m u' L' K' X') {j : Nat} {q : List E} (hI : IReach (sysOf n L K X L' K' X' f) ⟨u, u', []⟩ j q) : ∀ e ∈ q, e.a.k = 4 ∧ e.b.k = 4 ∧ e.p.foldl (step L K X) u = e.a ∧ e.p.foldl (step L' K' X') u' = e.b := by
  have hW := hI.wide (sys_next h h') (sys_ix n m L K X L' K' X' f) (show goodV n m u u' from ⟨h.root, h'.root⟩) rfl
  have hp : ∀ e ∈ q, e.p.foldl (step L K X) u = e.a ∧ e.p.foldl (step L' K' X') u' = e.b := by
    clear hW
    induction hI with
    | start =>
      intro e he
      unfold Sys.iadd at he
      split at he
      · obtain rfl : e = ⟨u, u', []⟩ := by simpa using he
        exact ⟨rfl, rfl⟩
      · simp at he
    | @step j q e h1 h2 h3 ih =>
      have hW := h1.wide (sys_next h h') (sys_ix n m L K X L' K' X' f) (show goodV n m u u' from ⟨h.root, h'.root⟩) rfl
      have hm : e ∈ q := List.mem_of_getElem? h2
      have hl := hW.live e hm
      have t1 : e.a.k = 4 := by unfold Sys.live Sys.cp sysOf at hl; simp at hl; exact hl.1.1
      have t2 : e.b.k = 4 := by unfold Sys.live Sys.cp sysOf at hl; simp at hl; exact hl.1.2
      obtain ⟨i1, i2⟩ := ih e hm
      obtain ⟨t, ht, ht2, _⟩ := igrow_pre (S := sysOf n L K X L' K' X' f) q e
      rw [ht]
      intro x hx
      rcases List.mem_append.1 hx with hx | hx
      · exact ih x hx
      · obtain ⟨k, _, rfl⟩ := ht2 x hx
        show (e.p ++ [k]).foldl (step L K X) u = atKey (L e.a.a.toNat) (K e.a.a.toNat) (X e.a.a.toNat) k ∧ (e.p ++ [k]).foldl (step L' K' X') u' = atKey (L' e.b.a.toNat) (K' e.b.a.toNat) (X' e.b.a.toNat) k
        rw [List.foldl_append, List.foldl_append, i1, i2]
        show step L K X e.a k = _ ∧ step L' K' X' e.b k = _
        unfold step
        rw [if_pos t1, if_pos t2]
        exact ⟨rfl, rfl⟩
  intro e he
  have hl := hW.live e he
  have t1 : e.a.k = 4 := by unfold Sys.live Sys.cp sysOf at hl; simp at hl; exact hl.1.1
  have t2 : e.b.k = 4 := by unfold Sys.live Sys.cp sysOf at hl; simp at hl; exact hl.1.2
  exact ⟨t1, t2, hp e he⟩

/-- Of two that are the same: no way. -/
theorem IDone.same (h' : OkG m u' L' K' X') {ans : List V} (hI : IDone (sysOf n L K X L' K' X' f) ⟨u, u', []⟩ ans) (ha : alike f u (sh n u') = true) : ans = [] := by
  refine hI.dead ?_
  unfold Sys.live Sys.cp sysOf
  simp only [Bool.and_eq_false_iff, Bool.not_eq_false', beq_iff_eq, beq_eq_false_iff_ne]
  by_cases h4 : u.k = 4 ∧ u'.k = 4
  · right
    have := (alike_iff.1 ha).2.1 h4.1
    obtain ⟨b0, b1⟩ := isV_tab h'.root h4.2
    unfold sh at this
    rw [if_pos h4.2] at this
    rw [this]
    congr 1
    simp only
    omega
  · left
    by_cases h1 : u.k = 4
    · exact Or.inr (fun h2 => h4 ⟨h1, h2⟩)
    · exact Or.inl h1

/-- Of two that are not the same: at the end of the way they part. -/
theorem IDone.parts (h : OkG n u L K X) (h' : OkG m u' L' K' X') (hc : ClsAre (n + m) (jn n L L') (jn n K K') (jn n X (fun j c => sh n (X' j c))) f) {ans : List V} (hI : IDone (sysOf n L K X L' K' X' f) ⟨u, u', []⟩ ans) (ha : alike f u (sh n u') = false) : ¬ ((ans.foldl (step L K X) u).k = 4 ∧ (ans.foldl (step L' K' X') u').k = 4) ∧ ans.foldl (step L K X) u ≠ ans.foldl (step L' K' X') u' := by
  by_cases h4 : u.k = 4 ∧ u'.k = 4
  · obtain ⟨b0, b1⟩ := isV_tab h'.root h4.2
    have hD : f u.a.toNat ≠ f (n + u'.a.toNat) := fun e => by
      have : alike f u (sh n u') = true := alike_iff.2 ⟨by rw [sh_k]; exact h4.1.trans h4.2.symm, fun _ => by
        unfold sh
        rw [if_pos h4.2, e]
        congr 1
        simp only
        omega, fun h => absurd h4.1 h⟩
      rw [this] at ha
      cases ha
    have hl : (sysOf n L K X L' K' X' f).live ⟨u, u', []⟩ = true := by
      unfold Sys.live Sys.cp sysOf
      simp [h4.1, h4.2, hD]
    rcases hI with ⟨j, q, e, pre, k, post, h1, h2, h3, _, h5, rfl⟩ | ⟨j, q, h1, h2, rfl⟩
    · obtain ⟨t1, t2, w1, w2⟩ := ireach_way h h' h1 e (List.mem_of_getElem? h2)
      rw [List.foldl_append, List.foldl_append, w1, w2]
      show ¬ ((step L K X e.a k).k = 4 ∧ (step L' K' X' e.b k).k = 4) ∧ step L K X e.a k ≠ step L' K' X' e.b k
      unfold step
      rw [if_pos t1, if_pos t2]
      unfold Sys.part Sys.child sysOf at h5
      simp only [Bool.and_eq_true, Bool.not_eq_true', Bool.and_eq_false_iff, beq_eq_false_iff_ne] at h5
      refine ⟨fun hh => ?_, fun hh => ?_⟩
      · rcases h5.1 with h6 | h6
        · exact h6 hh.1
        · exact h6 hh.2
      · have := h5.2
        rw [eqV_iff.2 hh] at this
        cases this
    · have := h1.first hl
      rw [h1.nobody h h' hc h2] at this
      simp at this
  · have hl : (sysOf n L K X L' K' X' f).live ⟨u, u', []⟩ = false := by
      unfold Sys.live Sys.cp sysOf
      simp only [Bool.and_eq_false_iff, beq_eq_false_iff_ne]
      left
      by_cases h1 : u.k = 4
      · exact Or.inr (fun h2 => h4 ⟨h1, h2⟩)
      · exact Or.inl h1
    obtain rfl := hI.dead hl
    refine ⟨h4, fun e => ?_⟩
    have e : u = u' := e
    subst e
    have hk : u.k ≠ 4 := fun e => h4 ⟨e, e⟩
    unfold sh at ha
    rw [if_neg hk, alike_refl] at ha
    cases ha
end

theorem lead_fold (u : V) (L : Nat → Nat) (K X : Nat → Nat → V) (P : Nat → V) : ∀ i, lead u L K X P i = ((List.range i).map P).foldl (step L K X) u
  | 0 => rfl
  | i + 1 => by
    rw [List.range_succ, List.map_append, List.foldl_append, ← lead_fold u L K X P i]
    rfl
theorem lead_way (u : V) (L : Nat → Nat) (K X : Nat → Nat → V) (p : List V) : lead u L K X (fun i => p.getD i zeroV) p.length = p.foldl (step L K X) u := by
  rw [lead_fold]
  congr 1
  refine List.ext_getElem? fun i => ?_
  by_cases hi : i < p.length
  · simp [hi]
  · simp [hi]

end Go.Proofs.Ytgflalfiopnmnaa.Aw

namespace Go.Proofs.Ytgflalfiopnmnaa
open Vl

/-- Two values go together: tables that R relates, or the same value. -/
def relV (R : Nat → Nat → Prop) (x y : V) : Prop := x.k = y.k ∧ (x.k = 4 → R x.a.toNat y.a.toNat) ∧ (x.k ≠ 4 → x = y)

/-- A graph, told. -/
structure Gr where
  n : Nat
  u : V
  L : Nat → Nat
  K : Nat → Nat → V
  X : Nat → Nat → V
def Gr.val (g : Gr) (i : Nat) (k : V) : V := atKey (g.L i) (g.K i) (g.X i) k
def KB (g h : Gr) (R : Nat → Nat → Prop) : Prop := ∀ i j, R i j → i < g.n ∧ j < h.n ∧ ∀ k, relV R (g.val i k) (h.val j k)
def SameG (g h : Gr) : Prop := ∃ R, KB g h R ∧ relV R g.u h.u

section
variable {R S : Nat → Nat → Prop} {x y z : V} {g h i : Gr}
theorem relV.mono (hv : relV R x y) (hm : ∀ a b, R a b → S a b) : relV S x y := ⟨hv.1, fun e => hm _ _ (hv.2.1 e), hv.2.2⟩
theorem relV.symm (hv : relV R x y) : relV (fun a b => R b a) y x := ⟨hv.1.symm, fun e => hv.2.1 (hv.1.trans e), fun e => (hv.2.2 (fun e' => e (hv.1.symm.trans e'))).symm⟩
theorem relV.comp (hv : relV R x y) (hw : relV S y z) : relV (fun a c => ∃ b, R a b ∧ S b c) x z :=
  ⟨hv.1.trans hw.1, fun e => ⟨_, hv.2.1 e, hw.2.1 (hv.1.symm.trans e)⟩, fun e => (hv.2.2 e).trans (hw.2.2 (fun e' => e (hv.1.trans e')))⟩
theorem KB.symm (hk : KB g h R) : KB h g (fun a b => R b a) := fun a b hab => by
  obtain ⟨h1, h2, h3⟩ := hk b a hab
  exact ⟨h2, h1, fun k => (h3 k).symm⟩
theorem KB.comp (hk : KB g h R) (hk' : KB h i S) : KB g i (fun a c => ∃ b, R a b ∧ S b c) := by
  rintro a c ⟨b, h1, h2⟩
  obtain ⟨p1, p2, p3⟩ := hk a b h1
  obtain ⟨q1, q2, q3⟩ := hk' b c h2
  exact ⟨p1, q2, fun k => (p3 k).comp (q3 k)⟩
theorem SameG.symm (hs : SameG g h) : SameG h g := by
  obtain ⟨R, h1, h2⟩ := hs
  exact ⟨_, h1.symm, h2.symm⟩
theorem SameG.trans (hs : SameG g h) (hs' : SameG h i) : SameG g i := by
  obtain ⟨R, h1, h2⟩ := hs
  obtain ⟨S, h3, h4⟩ := hs'
  exact ⟨_, h1.comp h3, h2.comp h4⟩
end

section
variable {n m l l' : Nat} {k x k' x' : Nat → V} {ls ls' : List Nat} {R : Nat → Nat → Prop}
end

section
variable {g h : Gr} {f : Nat → Nat}
end

/-- Two rows, place by place. -/
inductive Along (R : Nat → Nat → Prop) : List Nat → List Nat → Prop
  | nil : Along R [] []
  | add {S T : List Nat} {a b : Nat} : Along R S T → R a b → Along R (S ++ [a]) (T ++ [b])

section
variable {R : Nat → Nat → Prop} {S T : List Nat}
theorem Along.left (h : Along R S T) : ∀ a ∈ S, ∃ b ∈ T, R a b := by
  induction h with
  | nil => intro a ha; cases ha
  | add h1 h2 ih =>
    intro a ha
    rcases List.mem_append.1 ha with ha | ha
    · obtain ⟨b, hb, hr⟩ := ih a ha
      exact ⟨b, List.mem_append.2 (Or.inl hb), hr⟩
    · obtain rfl := List.mem_singleton.1 ha
      exact ⟨_, List.mem_append.2 (Or.inr (List.mem_singleton.2 rfl)), h2⟩
theorem Along.right (h : Along R S T) : ∀ b ∈ T, ∃ a ∈ S, R a b := by
  induction h with
  | nil => intro a ha; cases ha
  | add h1 h2 ih =>
    intro a ha
    rcases List.mem_append.1 ha with ha | ha
    · obtain ⟨b, hb, hr⟩ := ih a ha
      exact ⟨b, List.mem_append.2 (Or.inl hb), hr⟩
    · obtain rfl := List.mem_singleton.1 ha
      exact ⟨_, List.mem_append.2 (Or.inr (List.mem_singleton.2 rfl)), h2⟩
theorem Along.len (h : Along R S T) : S.length = T.length := by
  induction h with
  | nil => rfl
  | add h1 h2 ih => simp [ih]
end

section
variable {n : Nat} {u : V} {L : Nat → Nat} {K X : Nat → Nat → V}
end

end Go.Proofs.Ytgflalfiopnmnaa

namespace Go.Proofs.Ytgflalfiopnmnaa
open Vl

/-- A value led anew: a table by one of its doubles. -/
def Led (n tw : Nat) (v v' : V) : Prop := (v.k = 4 → ∃ q, q < tw ∧ v' = ⟨v.k, v.n, v.s, v.a + ((n * q : Nat) : Int)⟩) ∧ (v.k ≠ 4 → v' = v)

/-- The pairs of a table from another one on. -/
structure TurnT (n tw l : Nat) (k x : Nat → V) (l' : Nat) (k' x' : Nat → V) : Prop where
  len : l' = l
  ex : ∃ fr, (0 < l → fr < l) ∧ ∀ c, c < l → k' c = k ((fr + c) % l) ∧ Led n tw (x ((fr + c) % l)) (x' c)

structure TurnedG (g h : Gr) (tw : Nat) : Prop where
  pos : 0 < tw
  few : g.n * tw ≤ 200
  len : h.n = g.n * tw
  root : Led g.n tw g.u h.u
  all : ∀ j, j < h.n → TurnT g.n tw (g.L (j % g.n)) (g.K (j % g.n)) (g.X (j % g.n)) (h.L j) (h.K j) (h.X j)

theorem rot_eq {fr l c : Nat} (hf : fr < l) (hc : c < l) : (fr + c) % l = if fr + c < l then fr + c else fr + c - l := by
  split
  · rename_i h
    exact Nat.mod_eq_of_lt h
  · rw [Nat.mod_eq_sub_mod (by omega)]
    exact Nat.mod_eq_of_lt (by omega)
theorem rot_lt {fr l c : Nat} (hc : c < l) : (fr + c) % l < l := Nat.mod_lt _ (by omega)
theorem rot_ne {fr l j c : Nat} (hf : fr < l) (hj : j < c) (hc : c < l) : (fr + j) % l ≠ (fr + c) % l := by
  rw [rot_eq hf hc, rot_eq hf (by omega)]
  split <;> split <;> omega
theorem rot_back {fr l c : Nat} (hf : fr < l) (hc : c < l) : ∃ d, d < l ∧ (fr + d) % l = c := by
  refine ⟨if fr ≤ c then c - fr else c + l - fr, by split <;> omega, ?_⟩
  rw [rot_eq hf (by split <;> omega)]
  split <;> split <;> omega

section
variable {n tw : Nat} {v v' : V}
theorem Led.kind (h : Led n tw v v') : v'.k = v.k := by
  by_cases h4 : v.k = 4
  · obtain ⟨q, _, e⟩ := h.1 h4
    rw [e]
  · rw [h.2 h4]
theorem Led.size (h : Led n tw v v') : v'.s = v.s ∧ v'.n = v.n := by
  by_cases h4 : v.k = 4
  · obtain ⟨q, _, e⟩ := h.1 h4
    rw [e]
    exact ⟨rfl, rfl⟩
  · rw [h.2 h4]
    exact ⟨rfl, rfl⟩
theorem mul_room {a q : Nat} (ha : a < n) (hq : q < tw) : a + n * q < n * tw := by
  have h1 : n * (q + 1) ≤ n * tw := Nat.mul_le_mul_left _ hq
  rw [Nat.mul_add, Nat.mul_one] at h1
  omega
theorem Led.tab (h : Led n tw v v') (hv : isV n v = true) (h4 : v.k = 4) : v'.a.toNat < n * tw ∧ v'.a.toNat % n = v.a.toNat ∧ v.a.toNat < n ∧ 0 ≤ v'.a := by
  obtain ⟨q, hq, e⟩ := h.1 h4
  obtain ⟨a0, a1⟩ := isV_tab hv h4
  have ha : v'.a.toNat = v.a.toNat + n * q := by
    rw [e]
    show (v.a + ((n * q : Nat) : Int)).toNat = _
    omega
  have hr := mul_room (n := n) (tw := tw) (a := v.a.toNat) (by omega) hq
  refine ⟨by omega, ?_, by omega, ?_⟩
  · rw [ha, Nat.add_mul_mod_self_left]
    exact Nat.mod_eq_of_lt (by omega)
  · rw [e]
    show 0 ≤ v.a + ((n * q : Nat) : Int)
    omega
theorem Led.isV (h : Led n tw v v') (hv : Vl.isV n v = true) : Vl.isV (n * tw) v' = true := by
  by_cases h4 : v.k = 4
  · obtain ⟨t1, _, t3, t4⟩ := h.tab hv h4
    obtain ⟨q, hq, e⟩ := h.1 h4
    obtain ⟨a0, a1⟩ := isV_tab hv h4
    unfold Vl.isV at hv ⊢
    rw [if_neg (by omega), if_neg (by omega), if_neg (by omega), if_neg (by omega), if_pos h4] at hv
    have h4' : v'.k = 4 := h.kind.trans h4
    rw [if_neg (by omega), if_neg (by omega), if_neg (by omega), if_neg (by omega), if_pos h4']
    simp only [Bool.and_eq_true, beq_iff_eq, decide_eq_true_eq] at hv ⊢
    refine ⟨by rw [h.size.2]; exact hv.1, by rw [h.size.1]; exact hv.2.1, t4, by omega⟩
  · rw [h.2 h4]
    unfold Vl.isV at hv ⊢
    simp only [h4, if_false] at hv ⊢
    exact hv
end

theorem TurnT.ok {n tw l : Nat} {k x : Nat → V} {l' : Nat} {k' x' : Nat → V} (h : TurnT n tw l k x l' k' x') (ho : OkT n l k x) : OkT (n * tw) l' k' x' := by
  obtain ⟨rfl, fr, hf, hc⟩ := h
  refine ⟨ho.len, fun c hcl => ?_⟩
  have hfl := hf (by omega)
  have hr := rot_lt (fr := fr) hcl
  obtain ⟨e1, e2⟩ := hc c hcl
  refine ⟨by rw [e1]; exact (ho.all _ hr).key, e2.isV (ho.all _ hr).val, by rw [e2.kind]; exact (ho.all _ hr).some, fun j hj => ?_⟩
  rw [e1, (hc j (by omega)).1]
  cases e : eqV (k ((fr + j) % l')) (k ((fr + c) % l')) with
  | false => rfl
  | true => exact absurd (eqV_iff.1 e) (Vl.OkT.once ho (rot_lt (by omega)) hr (rot_ne hfl hj hcl))

theorem TurnT.rel {n tw l : Nat} {k x : Nat → V} {l' : Nat} {k' x' : Nat → V} (h : TurnT n tw l k x l' k' x') (ho : OkT n l k x) (z : V) : Led n tw (atKey l k x z) (atKey l' k' x' z) := by
  have ho' := h.ok ho
  obtain ⟨rfl, fr, hf, hc⟩ := h
  by_cases hz : z ∈ keys k l'
  · obtain ⟨c, hcl, rfl⟩ := Aw.mem_keys.1 hz
    obtain ⟨d, hd, e⟩ := rot_back (hf (by omega)) hcl
    obtain ⟨e1, e2⟩ := hc d hd
    rw [e] at e1 e2
    rw [Aw.atKey_at ho hcl, ← e1, Aw.atKey_at ho' hd]
    exact e2
  · have hz' : z ∉ keys k' l' := fun hm => by
      obtain ⟨c, hcl, rfl⟩ := Aw.mem_keys.1 hm
      exact hz (Aw.mem_keys.2 ⟨_, rot_lt hcl, (hc c hcl).1.symm⟩)
    rw [Aw.atKey_no hz, Aw.atKey_no hz']
    exact ⟨fun e => by simp [zeroV] at e, fun _ => rfl⟩

end Go.Proofs.Ytgflalfiopnmnaa

namespace Go.Proofs.Ytgflalfiopnmnaa
open Go.RowKit Vl

theorem ValB.only {w w' : World} {B CB : Nat} {v : V} (h : ValB w B v) (ho : Only (fun k => k = CB) w w') (hne : B ≠ CB) : ValB w' B v := (ho.block B (blk_lt h) hne).trans h
theorem put4_three {w : World} {B : Nat} {v : V} (h : ValB w B v) (a : Int) : ValB (w.setCell ⟨B, 3, none⟩ (.int .i64 a)) B ⟨v.k, v.n, v.s, a⟩ := by
  unfold ValB at h ⊢
  simp [World.setCell, Array.getElem?_modify, h]

set_option maxHeartbeats 2000000 in
set_option maxRecDepth 100000 in
/-- '(*l6Cur).led'. -/
theorem led_any (w : World) (CB : Nat) (ca : Option Addr) (cl cc cb co t : Nat) (v : V) (n tw : Nat) (hn : n ≤ 200) (htw : 0 < tw) (htw2 : tw ≤ 2) (hv : v.k = 4 → 0 ≤ v.a ∧ v.a < n) (h : Rd w CB ca cl cc cb co t) (ht : t ≤ 60000000) :
    Calls Try.prog 78 #[.pointer (some ⟨CB, 0, none⟩), .agg #[.int .i64 v.k, .int .i64 v.n, .string v.s, .int .i64 v.a], .int .i64 n, .int .i64 tw] w fun e w' => (∃ v' : V, Led n tw v v' ∧ e = .returned (.agg #[.int .i64 v'.k, .int .i64 v'.n, .string v'.s, .int .i64 v'.a])) ∧ Rd w' CB ca cl cc cb co (t + 2) ∧ Only (fun k => k = CB) w w' := by
  have hbk := h.blocks
  have A2 := alloc2 w (.cells #[.int .i64 v.k, .int .i64 v.n, .string v.s, .int .i64 v.a] 24) (.cells #[.int .i64 0, .int .i64 0, .string ⟨#[]⟩, .int .i64 0] 24)
  obtain ⟨w0, hw0⟩ : ∃ w0, w0 = (w.alloc (.cells #[.int .i64 v.k, .int .i64 v.n, .string v.s, .int .i64 v.a] 24)).alloc (.cells #[.int .i64 0, .int .i64 0, .string ⟨#[]⟩, .int .i64 0] 24) := ⟨_, rfl⟩
  rw [← hw0] at A2
  have HV0 : Hid (ValB w0 w.heap.size v) := A2.1
  have HZ0 : Hid (ValB w0 (w.heap.size + 1) zeroV) := A2.2.1
  have HO0 : Hid (Only (fun k => k = CB) w w0) := Only.below A2.2.2.2
  have HR0 : Hid (Rd w0 CB ca cl cc cb co t) := h.below A2.2.2.2
  clear A2 h
  obtain ⟨vb, hvb⟩ : ∃ vb, w.heap.size = vb := ⟨_, rfl⟩
  obtain ⟨rb, hrb⟩ : ∃ rb, vb + 1 = rb := ⟨_, rfl⟩
  go_enter Try.func78, Try.ntmps78
  rw [hvb] at HV0 HZ0 hbk
  rw [hrb] at HZ0
  have lCB : CB < vb := hbk.1
  go_upto_region 1 with fail
  rw [← hw0]
  clear hw0
  try rw [hvb]
  try rw [hrb]
  obtain ⟨c0, c1, c2, c3, c4⟩ := cells4 HV0.out
  obtain ⟨z0, z1, z2, z3, z4⟩ := cells4 HZ0.out
  simp only [zeroV] at z0 z1 z2 z3
  by_cases h4 : v.k = 4
  · obtain ⟨a0, a1⟩ := hv h4
    have H4 : Hid (v.k = 4) := h4
    have hk4 : (v.k == 4) = true := by simp [h4]
    have HA : Hid (0 ≤ v.a ∧ v.a < n) := ⟨a0, a1⟩
    clear h4 hv a0 a1
    go_upto_region 2 with fail
    have hp := pick_r tw (HR0.out.below ((Below.refl _ _).drew)) htw (by omega) (by omega)
    refine wp_region_held_drew (S := fun _ => True) (by kernel_rfl) trivial (fun hHeld => ?_)
    refine wpAnyH_take (i := 0) (v := .pointer (some ⟨vb, 3, none⟩)) rfl (by kernel_rfl) (by kernel_rfl) (by kernel_rfl) (fun _ _ _ h => h) (Or.inl ⟨by rfl, fun w hSw => ?_⟩) hHeld ?_
    · first | rfl | go_simp
    simp only [Act.put, List.setIfInBounds_toArray, List.set_cons_zero, List.set_cons_succ, List.getElem_toArray, List.getElem_cons_zero]
    refine wpAnyH_take (i := 2) (v := .int .i64 (n : Int)) rfl (by kernel_rfl) (by kernel_rfl) (by kernel_rfl) (fun _ _ _ h => h) (Or.inl ⟨by rfl, fun w hSw => ?_⟩) hHeld ?_
    · first | rfl | go_simp
    simp only [Act.put, List.setIfInBounds_toArray, List.set_cons_zero, List.set_cons_succ, List.getElem_toArray, List.getElem_cons_zero, List.getElem_cons_succ]
    refine wpAnyH_take (i := 3) (v := .pointer (some ⟨CB, 0, none⟩)) rfl (by kernel_rfl) (by kernel_rfl) (by kernel_rfl) (fun _ _ _ h => h) (Or.inl ⟨by rfl, fun w hSw => ?_⟩) hHeld ?_
    · first | rfl | go_simp
    simp only [Act.put, List.setIfInBounds_toArray, List.set_cons_zero, List.set_cons_succ, List.getElem_toArray, List.getElem_cons_zero, List.getElem_cons_succ]
    refine wpAnyH_take (i := 4) (v := .int .i64 (tw : Int)) rfl (by kernel_rfl) (by kernel_rfl) (by kernel_rfl) (fun _ _ _ h => h) (Or.inl ⟨by rfl, fun w hSw => ?_⟩) hHeld ?_
    · first | rfl | go_simp
    simp only [Act.put, List.setIfInBounds_toArray, List.set_cons_zero, List.set_cons_succ, List.getElem_toArray, List.getElem_cons_zero, List.getElem_cons_succ]
    refine wpAnyH_ready (rs := [1, 5]) (by kernel_rfl) (by simp) ?_
    refine AllReadyH.cons rfl (fun K' hK' => ?_) (AllReadyH.cons rfl (fun K' hK' => ?_) AllReadyH.nil)
    · go_simp
      refine hK'.out _ _ trivial (fun hHeld => ?_)
      clear hK'
      try simp only [Act.put, List.setIfInBounds_toArray, List.set_cons_zero, List.set_cons_succ, List.getElem_toArray, List.getElem_cons_zero, List.getElem_cons_succ]
      refine wpAnyH_ready (rs := [5]) (by kernel_rfl) (by simp) ?_
      refine AllReadyH.cons rfl (fun K' hK' => ?_) AllReadyH.nil
      go_simp
      refine hp.mono ?_
      rintro e w1 ⟨⟨y, hy, rfl⟩, HR1, HO1⟩
      refine hK'.out _ _ trivial (fun hHeld => ?_)
      clear hK'
      try simp only [Act.put, List.setIfInBounds_toArray, List.set_cons_zero, List.set_cons_succ, List.getElem_toArray, List.getElem_cons_zero, List.getElem_cons_succ]
      have HV1 : Hid (ValB w1 vb v) := ValB.only (show ValB w0.drew vb v from HV0.out) HO1.out (by omega)
      have HZ1 : Hid (ValB w1 rb zeroV) := ValB.only (show ValB w0.drew rb zeroV from HZ0.out) HO1.out (by omega)
      have HOw : Hid (Only (fun k => k = CB) w w1) := HO0.out.trans (Only.trans (Only.below ((Below.refl _ _).drew)) HO1.out)
      obtain ⟨m, hm⟩ : ∃ m, n * y = m := ⟨_, rfl⟩
      have hml : m ≤ 400 := by rw [← hm]; exact Nat.le_trans (Nat.mul_le_mul hn (show y ≤ 2 by omega)) (by omega)
      have hmz : (n : Int) * (y : Int) = (m : Int) := by rw [← hm, Int.natCast_mul]
      obtain ⟨va, hva⟩ : ∃ va : Int, v.a + (m : Int) = va := ⟨_, rfl⟩
      have hwm : IntKind.i64.wrap ((n : Int) * (y : Int)) = (m : Int) := by rw [hmz, IntKind.wrap_i64]; omega
      have hwa : IntKind.i64.wrap (v.a + (m : Int)) = va := by have := HA.out; rw [hva, IntKind.wrap_i64]; omega
      have HM : Hid (n * y = m) := hm
      have HVA : Hid (v.a + (m : Int) = va) := hva
      clear hm hmz hva c0 c1 c2 c3 c4 z0 z1 z2 z3 z4
      obtain ⟨c0, c1, c2, c3, c4⟩ := cells4 HV1.out
      refine wpAnyH_take (i := 6) (v := .int .i64 (m : Nat)) rfl (by kernel_rfl) (by kernel_rfl) (by kernel_rfl) (fun _ _ _ h => h) (Or.inl ⟨by rfl, fun w hSw => ?_⟩) hHeld ?_
      · go_simp
      simp only [Act.put, List.setIfInBounds_toArray, List.set_cons_zero, List.set_cons_succ, List.getElem_toArray, List.getElem_cons_zero, List.getElem_cons_succ]
      refine wpAnyH_take (i := 7) (v := .int .i64 va) rfl (by kernel_rfl) (by kernel_rfl) (by kernel_rfl) (fun _ _ _ h => h) (Or.inl ⟨by rfl, fun w hSw => ?_⟩) hHeld ?_
      · go_simp
      simp only [Act.put, List.setIfInBounds_toArray, List.set_cons_zero, List.set_cons_succ, List.getElem_toArray, List.getElem_cons_zero, List.getElem_cons_succ]
      refine wpAnyH_take (i := 8) (v := .pointer (some ⟨vb, 3, none⟩)) rfl (by kernel_rfl) (by kernel_rfl) (by kernel_rfl) (fun _ _ _ h => h) (Or.inl ⟨by rfl, fun w hSw => ?_⟩) hHeld ?_
      · first | rfl | go_simp
      simp only [Act.put, List.setIfInBounds_toArray, List.set_cons_zero, List.set_cons_succ, List.getElem_toArray, List.getElem_cons_zero, List.getElem_cons_succ]
      refine wpAnyH_ready (rs := [9]) (by kernel_rfl) (by simp) ?_
      refine AllReadyH.cons rfl (fun K' hK' => ?_) AllReadyH.nil
      go_simp
      refine hK'.out _ _ trivial (fun hHeld => ?_)
      clear hK'
      clear hHeld
      obtain ⟨w2, hw2⟩ : ∃ w2, w2 = w1.setCell ⟨vb, 3, none⟩ (.int .i64 va) := ⟨_, rfl⟩
      have HV2 : Hid (ValB w2 vb ⟨v.k, v.n, v.s, va⟩) := by rw [hw2]; exact put4_three HV1.out va
      have ho2 : Only (fun k => k = vb) w1 w2 := by rw [hw2]; exact (Only.refl (fun k => k = vb) w1).set (p := ⟨vb, 3, none⟩) rfl _
      have HZ2 : Hid (ValB w2 rb zeroV) := (ho2.block rb (blk_lt HZ1.out) (by omega)).trans HZ1.out
      have HR2 : Hid (Rd w2 CB ca cl cc cb co (t + 2)) := HR1.out.keep (ho2.toBelow (base := vb) (fun k e => by omega) (by have := blk_lt HV1.out; omega)) (by omega) (fun h => by have := hbk.2 h; omega)
      have HO2 : Hid (Only (fun k => k = CB) w w2) := HOw.out.then ho2 (fun j hj e => by omega)
      rw [← hw2]
      clear hw2 ho2 c0 c1 c2 c3 c4
      obtain ⟨c0, c1, c2, c3, c4⟩ := cells4 HV2.out
      obtain ⟨z0, z1, z2, z3, z4⟩ := cells4 HZ2.out
      simp only [zeroV] at z0 z1 z2 z3
      simp only at c0 c1 c2 c3
      refine wpAnyH_done (by kernel_rfl) ?_ _
      go_wp2
      have Q := put4r HZ2.out (.int .i64 v.k) (.int .i64 v.n) (.string v.s) (.int .i64 va)
      obtain ⟨q0, q1, q2, q3, _⟩ := cells4 Q
      refine bodyPost_ret (v := .agg #[.int .i64 v.k, .int .i64 v.n, .string v.s, .int .i64 va]) (by simp [results, Try.results78, go_sem, q0, q1, q2, q3]) rfl ⟨⟨⟨v.k, v.n, v.s, va⟩, ⟨fun _ => ⟨y, hy, by rw [HM.out, HVA.out]⟩, fun e => absurd H4.out e⟩, rfl⟩, ?_, ?_⟩
      · exact HR2.out.keep (set4_only.toBelow (base := rb) (fun k e => by omega) (by have := blk_lt HZ2.out; omega)) (by omega) (fun h => by have := hbk.2 h; omega)
      · exact HO2.out.then set4_only (fun j hj e => by omega)
    · go_simp
      refine hp.mono ?_
      rintro e w1 ⟨⟨y, hy, rfl⟩, HR1, HO1⟩
      refine hK'.out _ _ trivial (fun hHeld => ?_)
      clear hK'
      try simp only [Act.put, List.setIfInBounds_toArray, List.set_cons_zero, List.set_cons_succ, List.getElem_toArray, List.getElem_cons_zero, List.getElem_cons_succ]
      have HV1 : Hid (ValB w1 vb v) := ValB.only (show ValB w0.drew vb v from HV0.out) HO1.out (by omega)
      have HZ1 : Hid (ValB w1 rb zeroV) := ValB.only (show ValB w0.drew rb zeroV from HZ0.out) HO1.out (by omega)
      have HOw : Hid (Only (fun k => k = CB) w w1) := HO0.out.trans (Only.trans (Only.below ((Below.refl _ _).drew)) HO1.out)
      obtain ⟨m, hm⟩ : ∃ m, n * y = m := ⟨_, rfl⟩
      have hml : m ≤ 400 := by rw [← hm]; exact Nat.le_trans (Nat.mul_le_mul hn (show y ≤ 2 by omega)) (by omega)
      have hmz : (n : Int) * (y : Int) = (m : Int) := by rw [← hm, Int.natCast_mul]
      obtain ⟨va, hva⟩ : ∃ va : Int, v.a + (m : Int) = va := ⟨_, rfl⟩
      have hwm : IntKind.i64.wrap ((n : Int) * (y : Int)) = (m : Int) := by rw [hmz, IntKind.wrap_i64]; omega
      have hwa : IntKind.i64.wrap (v.a + (m : Int)) = va := by have := HA.out; rw [hva, IntKind.wrap_i64]; omega
      have HM : Hid (n * y = m) := hm
      have HVA : Hid (v.a + (m : Int) = va) := hva
      clear hm hmz hva c0 c1 c2 c3 c4 z0 z1 z2 z3 z4
      obtain ⟨c0, c1, c2, c3, c4⟩ := cells4 HV1.out
      refine wpAnyH_take (i := 6) (v := .int .i64 (m : Nat)) rfl (by kernel_rfl) (by kernel_rfl) (by kernel_rfl) (fun _ _ _ h => h) (Or.inl ⟨by rfl, fun w hSw => ?_⟩) hHeld ?_
      · go_simp
      simp only [Act.put, List.setIfInBounds_toArray, List.set_cons_zero, List.set_cons_succ, List.getElem_toArray, List.getElem_cons_zero, List.getElem_cons_succ]
      refine wpAnyH_ready (rs := [1]) (by kernel_rfl) (by simp) ?_
      refine AllReadyH.cons rfl (fun K' hK' => ?_) AllReadyH.nil
      go_simp
      refine hK'.out _ _ trivial (fun hHeld => ?_)
      clear hK'
      try simp only [Act.put, List.setIfInBounds_toArray, List.set_cons_zero, List.set_cons_succ, List.getElem_toArray, List.getElem_cons_zero, List.getElem_cons_succ]
      refine wpAnyH_take (i := 7) (v := .int .i64 va) rfl (by kernel_rfl) (by kernel_rfl) (by kernel_rfl) (fun _ _ _ h => h) (Or.inl ⟨by rfl, fun w hSw => ?_⟩) hHeld ?_
      · go_simp
      simp only [Act.put, List.setIfInBounds_toArray, List.set_cons_zero, List.set_cons_succ, List.getElem_toArray, List.getElem_cons_zero, List.getElem_cons_succ]
      refine wpAnyH_take (i := 8) (v := .pointer (some ⟨vb, 3, none⟩)) rfl (by kernel_rfl) (by kernel_rfl) (by kernel_rfl) (fun _ _ _ h => h) (Or.inl ⟨by rfl, fun w hSw => ?_⟩) hHeld ?_
      · first | rfl | go_simp
      simp only [Act.put, List.setIfInBounds_toArray, List.set_cons_zero, List.set_cons_succ, List.getElem_toArray, List.getElem_cons_zero, List.getElem_cons_succ]
      refine wpAnyH_ready (rs := [9]) (by kernel_rfl) (by simp) ?_
      refine AllReadyH.cons rfl (fun K' hK' => ?_) AllReadyH.nil
      go_simp
      refine hK'.out _ _ trivial (fun hHeld => ?_)
      clear hK'
      clear hHeld
      obtain ⟨w2, hw2⟩ : ∃ w2, w2 = w1.setCell ⟨vb, 3, none⟩ (.int .i64 va) := ⟨_, rfl⟩
      have HV2 : Hid (ValB w2 vb ⟨v.k, v.n, v.s, va⟩) := by rw [hw2]; exact put4_three HV1.out va
      have ho2 : Only (fun k => k = vb) w1 w2 := by rw [hw2]; exact (Only.refl (fun k => k = vb) w1).set (p := ⟨vb, 3, none⟩) rfl _
      have HZ2 : Hid (ValB w2 rb zeroV) := (ho2.block rb (blk_lt HZ1.out) (by omega)).trans HZ1.out
      have HR2 : Hid (Rd w2 CB ca cl cc cb co (t + 2)) := HR1.out.keep (ho2.toBelow (base := vb) (fun k e => by omega) (by have := blk_lt HV1.out; omega)) (by omega) (fun h => by have := hbk.2 h; omega)
      have HO2 : Hid (Only (fun k => k = CB) w w2) := HOw.out.then ho2 (fun j hj e => by omega)
      rw [← hw2]
      clear hw2 ho2 c0 c1 c2 c3 c4
      obtain ⟨c0, c1, c2, c3, c4⟩ := cells4 HV2.out
      obtain ⟨z0, z1, z2, z3, z4⟩ := cells4 HZ2.out
      simp only [zeroV] at z0 z1 z2 z3
      simp only at c0 c1 c2 c3
      refine wpAnyH_done (by kernel_rfl) ?_ _
      go_wp2
      have Q := put4r HZ2.out (.int .i64 v.k) (.int .i64 v.n) (.string v.s) (.int .i64 va)
      obtain ⟨q0, q1, q2, q3, _⟩ := cells4 Q
      refine bodyPost_ret (v := .agg #[.int .i64 v.k, .int .i64 v.n, .string v.s, .int .i64 va]) (by simp [results, Try.results78, go_sem, q0, q1, q2, q3]) rfl ⟨⟨⟨v.k, v.n, v.s, va⟩, ⟨fun _ => ⟨y, hy, by rw [HM.out, HVA.out]⟩, fun e => absurd H4.out e⟩, rfl⟩, ?_, ?_⟩
      · exact HR2.out.keep (set4_only.toBelow (base := rb) (fun k e => by omega) (by have := blk_lt HZ2.out; omega)) (by omega) (fun h => by have := hbk.2 h; omega)
      · exact HO2.out.then set4_only (fun j hj e => by omega)
  · have hk4 : (v.k == 4) = false := by simp [h4]
    have HL : Hid (Led n tw v v) := ⟨fun e => absurd e h4, fun _ => rfl⟩
    clear h4 hv
    go_wp2
    have Q := put4r HZ0.out (.int .i64 v.k) (.int .i64 v.n) (.string v.s) (.int .i64 v.a)
    obtain ⟨q0, q1, q2, q3, _⟩ := cells4 Q
    refine bodyPost_ret (v := .agg #[.int .i64 v.k, .int .i64 v.n, .string v.s, .int .i64 v.a]) (by simp [results, Try.results78, go_sem, q0, q1, q2, q3]) rfl ⟨⟨v, HL.out, rfl⟩, ?_, ?_⟩
    · exact (HR0.out.keep (set4_only.toBelow (base := rb) (fun k e => by omega) (by have := blk_lt HZ0.out; omega)) (by omega) (fun h => by have := hbk.2 h; omega)).mono (by omega)
    · exact HO0.out.then set4_only (fun j hj e => by omega)

end Go.Proofs.Ytgflalfiopnmnaa
