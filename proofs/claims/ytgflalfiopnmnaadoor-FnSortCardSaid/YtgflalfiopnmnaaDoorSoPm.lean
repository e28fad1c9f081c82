/-
  What a sort gives: all items once; by ranked answers in their order, and those that go along as they stood. No Go in sight.
-/
import Derived.Test.YtgflalfiopnmnaaDoorSoUp
import Derived.Test.YtgflalfiopnmnaaDoorRk
namespace Go.Proofs.YtgflalfiopnmnaaDoor.So
open Rk

theorem pass_perm (M : Nat → Nat → Int) {n s : Nat} (h0 : 0 < s) : ∀ {f : Nat} {o : List Nat} {q a o'}, o.length = n → pass M n s f o q = (a, some o') → List.Perm o' o := by
  intro f o q a o' ho h
  induction hk : n - f using Nat.strongRecOn generalizing f o q with
  | _ k ih =>
    by_cases hlt : f + s < n
    · rcases hm : mg M (seg o f (f + s)) (seg o (f + s) (min (f + 2 * s) n)) with ⟨b, r⟩
      cases r with
      | none => rw [pass_bad hlt h0 hm] at h; cases h
      | some m =>
        rw [pass_yes hlt h0 hm] at h
        have hp : List.Perm (o.take f ++ m ++ o.drop (min (f + 2 * s) n)) o := by
          have h1 : List.Perm (o.take f ++ m ++ o.drop (min (f + 2 * s) n)) (o.take f ++ (seg o f (f + s) ++ seg o (f + s) (min (f + 2 * s) n)) ++ o.drop (min (f + 2 * s) n)) :=
            ((List.Perm.refl _).append (mg_perm M _ _ hm)).append (List.Perm.refl _)
          rwa [seg_join (by omega) (by omega)] at h1
        exact (ih (n - (f + 2 * s)) (by omega) (hp.length_eq.trans ho) h rfl).trans hp
    · rw [pass_no hlt] at h; cases h; exact List.Perm.refl _

theorem all_perm (M : Nat → Nat → Int) {n : Nat} : ∀ {s : Nat} {o : List Nat} {q a o'}, 0 < s → o.length = n → all M n s o q = (a, some o') → List.Perm o' o := by
  intro s o q a o' h0 ho h
  induction hk : n - s using Nat.strongRecOn generalizing s o q with
  | _ k ih =>
    by_cases hlt : s < n
    · rcases hm : pass M n s 0 o q with ⟨b, r⟩
      cases r with
      | none => rw [all_bad hlt h0 hm] at h; cases h
      | some m =>
        rw [all_yes hlt h0 hm] at h
        have hp := pass_perm M h0 ho hm
        exact (ih (n - 2 * s) (by omega) (by omega) (hp.length_eq.trans ho) h rfl).trans hp
    · rw [all_no hlt] at h; cases h; exact List.Perm.refl _

theorem sorted_perm {M : Nat → Nat → Int} {n : Nat} {a o} (h : sorted M n = (a, some o)) : List.Perm o (List.range n) := all_perm M (by omega) (by simp) h

/-- A sort that failed has asked. -/
theorem mg_none (M : Nat → Nat → Int) (xs ys : List Nat) : ∀ {a}, mg M xs ys = (a, none) → a ≠ [] := by
  induction xs, ys using mg_ind M with
  | case1 ys => intro a h; rw [mg_left] at h; cases h
  | case2 x xs => intro a h; rw [mg_right] at h; cases h
  | case3 x xs y ys h2 => intro a h; rw [mg_two _ _ h2] at h; cases h; simp
  | case4 x xs y ys h2 h1 ih => intro a h; rw [mg_one _ _ h1] at h; obtain ⟨e1, _⟩ := Prod.mk.inj h; rw [← e1]; simp
  | case5 x xs y ys h2 h1 ih => intro a h; rw [mg_zero _ _ h2 h1] at h; obtain ⟨e1, _⟩ := Prod.mk.inj h; rw [← e1]; simp
theorem pass_none (M : Nat → Nat → Int) {n s : Nat} (h0 : 0 < s) : ∀ {f : Nat} {o : List Nat} {q a}, pass M n s f o q = (a, none) → a ≠ [] := by
  intro f o q a h
  induction hk : n - f using Nat.strongRecOn generalizing f o q with
  | _ k ih =>
    by_cases hlt : f + s < n
    · rcases hm : mg M (seg o f (f + s)) (seg o (f + s) (min (f + 2 * s) n)) with ⟨b, r⟩
      cases r with
      | none =>
        rw [pass_bad hlt h0 hm] at h; cases h
        have := mg_none M _ _ hm
        simp [this]
      | some m =>
        rw [pass_yes hlt h0 hm] at h
        exact ih (n - (f + 2 * s)) (by omega) h rfl
    · rw [pass_no hlt] at h; cases h

theorem all_none (M : Nat → Nat → Int) {n : Nat} : ∀ {s : Nat} {o : List Nat} {q a}, 0 < s → all M n s o q = (a, none) → a ≠ [] := by
  intro s o q a h0 h
  induction hk : n - s using Nat.strongRecOn generalizing s o q with
  | _ k ih =>
    by_cases hlt : s < n
    · rcases hm : pass M n s 0 o q with ⟨b, r⟩
      cases r with
      | none => rw [all_bad hlt h0 hm] at h; cases h; exact pass_none M h0 hm
      | some m => rw [all_yes hlt h0 hm] at h; exact ih (n - 2 * s) (by omega) (by omega) h rfl
    · rw [all_no hlt] at h; cases h

theorem sorted_none {M : Nat → Nat → Int} {n : Nat} {a} (h : sorted M n = (a, none)) : a ≠ [] := all_none M (by omega) h

/-- x comes ahead of y, or goes along with it and stood first. -/
def St (M : Nat → Nat → Int) (x y : Nat) : Prop := M x y = 1 ∨ (M x y = 0 ∧ M y x = 0 ∧ x < y)

structure Ord (n : Nat) (M : Nat → Nat → Int) : Prop where
  val : ∀ a, a < n → ∀ b, b < n → M a b = 0 ∨ M a b = 1
  rkd : Rkd n M

theorem Ord.trans {n : Nat} {M : Nat → Nat → Int} (h : Ord n M) {x y z : Nat} (hx : x < n) (hy : y < n) (hz : z < n) (h1 : St M x y) (h2 : St M y z) : St M x z := by
  have vxz := h.val x hx z hz
  rcases h1 with h1 | ⟨h1, h1', l1⟩
  · have key : M z y = 0 → M x z = 1 := fun e => by
      rcases vxz with e0 | e0
      · exact absurd ⟨e, h1⟩ ((h.rkd x hx z hz).2.2 e0 y hy)
      · exact e0
    rcases h2 with h2 | ⟨h2, h2', l2⟩
    · left
      apply key
      rcases h.val z hz y hy with e | e
      · exact e
      · exact absurd ⟨h2, e⟩ (h.rkd y hy z hz).2.1
    · exact Or.inl (key h2')
  · rcases h2 with h2 | ⟨h2, h2', l2⟩
    · left
      rcases vxz with e0 | e0
      · exact absurd ⟨e0, h2⟩ ((h.rkd y hy x hx).2.2 h1' z hz)
      · exact e0
    · right
      refine ⟨?_, ?_, by omega⟩
      · rcases vxz with e0 | e0
        · exact e0
        · exact absurd ⟨h2, e0⟩ ((h.rkd x hx y hy).2.2 h1 z hz)
      · rcases h.val z hz x hx with e0 | e0
        · exact e0
        · exact absurd ⟨h1', e0⟩ ((h.rkd z hz y hy).2.2 h2' x hx)

theorem mg_St {n : Nat} {M : Nat → Nat → Int} (h : Ord n M) (xs ys : List Nat) : (∀ x ∈ xs, x < n) → (∀ y ∈ ys, y < n) → xs.Pairwise (St M) → ys.Pairwise (St M) → (∀ x ∈ xs, ∀ y ∈ ys, x < y) → ∀ {a m}, mg M xs ys = (a, some m) → m.Pairwise (St M) := by
  induction xs, ys using mg_ind M with
  | case1 ys => intro _ _ _ p2 _ a m e; rw [mg_left] at e; cases e; exact p2
  | case2 x xs => intro _ _ p1 _ _ a m e; rw [mg_right] at e; cases e; exact p1
  | case3 x xs y ys h2 => intro _ _ _ _ _ a m e; rw [mg_two _ _ h2] at e; cases e
  | case4 x xs y ys h2 h1 ih =>
    intro lx ly p1 p2 l a m e
    rw [mg_one _ _ h1] at e
    obtain ⟨_, e⟩ := Prod.mk.inj e
    obtain ⟨m', hm', rfl⟩ := Option.map_eq_some_iff.1 e
    obtain ⟨q1, q2⟩ := List.pairwise_cons.1 p2
    obtain ⟨r1, r2⟩ := List.pairwise_cons.1 p1
    have hm2 : mg M (x :: xs) ys = ((mg M (x :: xs) ys).1, some m') := by rw [← hm']
    refine List.pairwise_cons.2 ⟨fun z hz => ?_, ih lx (fun y' hy' => ly y' (by simp [hy'])) p1 q2 (fun x' hx' y' hy' => l x' hx' y' (by simp [hy'])) hm2⟩
    have := (mg_perm M _ _ hm2).mem_iff.1 hz
    simp only [List.cons_append, List.mem_cons, List.mem_append] at this
    rcases this with rfl | hz | hz
    · exact Or.inl h1
    · exact h.trans (ly y (by simp)) (lx x (by simp)) (lx z (by simp [hz])) (Or.inl h1) (r1 z hz)
    · exact q1 z hz
  | case5 x xs y ys h2 h1 ih =>
    intro lx ly p1 p2 l a m e
    rw [mg_zero _ _ h2 h1] at e
    obtain ⟨_, e⟩ := Prod.mk.inj e
    obtain ⟨m', hm', rfl⟩ := Option.map_eq_some_iff.1 e
    obtain ⟨q1, q2⟩ := List.pairwise_cons.1 p2
    obtain ⟨r1, r2⟩ := List.pairwise_cons.1 p1
    have hm2 : mg M xs (y :: ys) = ((mg M xs (y :: ys)).1, some m') := by rw [← hm']
    have hxn := lx x (by simp)
    have hyn := ly y (by simp)
    have sxy : St M x y := by
      have e0 : M y x = 0 := by
        rcases h.val y hyn x hxn with e | e
        · exact e
        · exact absurd e h1
      rcases h.val x hxn y hyn with e | e
      · exact Or.inr ⟨e, e0, l x (by simp) y (by simp)⟩
      · exact Or.inl e
    refine List.pairwise_cons.2 ⟨fun z hz => ?_, ih (fun x' hx' => lx x' (by simp [hx'])) ly r2 p2 (fun x' hx' y' hy' => l x' (by simp [hx']) y' hy') hm2⟩
    have := (mg_perm M _ _ hm2).mem_iff.1 hz
    simp only [List.mem_cons, List.mem_append] at this
    rcases this with hz | rfl | hz
    · exact r1 z hz
    · exact sxy
    · exact h.trans hxn hyn (ly z (by simp [hz])) sxy (q1 z hz)

/-- A piece in order, of items that stood in it. -/
def Blk (M : Nat → Nat → Int) (o : List Nat) (f e : Nat) : Prop := (seg o f e).Pairwise (St M) ∧ ∀ x ∈ seg o f e, f ≤ x ∧ x < e
def Mu (d g : Nat) : Prop := ∃ i, g = i * d

theorem Mu.gap {d g f : Nat} (hg : Mu d g) (hf : Mu d f) (h : g < f) : g + d ≤ f := by
  obtain ⟨i, rfl⟩ := hg
  obtain ⟨j, rfl⟩ := hf
  have hij : i < j := Nat.lt_of_mul_lt_mul_right h
  have := Nat.mul_le_mul_right d (show i + 1 ≤ j from hij)
  rw [Nat.succ_mul] at this
  exact this
theorem Mu.two {s f : Nat} (h : Mu (2 * s) f) : Mu s f ∧ Mu s (f + s) ∧ Mu (2 * s) (f + 2 * s) := by
  obtain ⟨i, rfl⟩ := h
  refine ⟨⟨i * 2, by rw [Nat.mul_assoc]⟩, ⟨i * 2 + 1, by rw [Nat.add_mul, Nat.one_mul, Nat.mul_assoc]⟩, ⟨i + 1, by rw [Nat.add_mul, Nat.one_mul]⟩⟩

theorem seg_before {o X : List Nat} {f g e : Nat} (hf : f ≤ o.length) (he : e ≤ f) : seg (o.take f ++ X) g e = seg o g e := by
  unfold seg
  by_cases hg : g ≤ e
  · rw [List.drop_append_of_le_length (by simp; omega), List.take_append_of_le_length (by simp; omega), List.drop_take, List.take_take, Nat.min_eq_left (by omega)]
  · rw [show e - g = 0 by omega]; simp
theorem seg_after {o m : List Nat} {f e g h : Nat} (hf : f ≤ o.length) (hm : m.length = e - f) (hfe : f ≤ e) (hg : e ≤ g) : seg (o.take f ++ m ++ o.drop e) g h = seg o g h := by
  unfold seg
  have hl : (o.take f ++ m).length = e := by simp [hm]; omega
  rw [List.drop_append, List.drop_eq_nil_of_le (by omega), List.nil_append, List.drop_drop, hl, show e + (g - e) = g by omega]
theorem seg_mid {o m X : List Nat} {f e : Nat} (hf : f ≤ o.length) (hm : m.length = e - f) : seg (o.take f ++ m ++ X) f e = m := by
  unfold seg
  have hl : (o.take f).length = f := by simp; omega
  rw [List.append_assoc, List.drop_append, List.drop_eq_nil_of_le (by omega), List.nil_append, hl, Nat.sub_self, List.drop_zero, List.take_append_of_le_length (by omega), List.take_of_length_le (by omega)]

theorem pass_St {n s : Nat} {M : Nat → Nat → Int} (h : Ord n M) (h0 : 0 < s) : ∀ {f : Nat} {o : List Nat} {q a o'}, Mu (2 * s) f → o.length = n → (∀ z ∈ o, z < n) → (∀ g, Mu (2 * s) g → g < f → g < n → Blk M o g (min (g + 2 * s) n)) → (∀ g, Mu s g → f ≤ g → g < n → Blk M o g (min (g + s) n)) →
    pass M n s f o q = (a, some o') → ∀ g, Mu (2 * s) g → g < n → Blk M o' g (min (g + 2 * s) n) := by
  intro f o q a o' hmu ho hz p1 p2 hp
  induction hk : n - f using Nat.strongRecOn generalizing f o q with
  | _ k ih =>
    by_cases hlt : f + s < n
    · rcases hm : mg M (seg o f (f + s)) (seg o (f + s) (min (f + 2 * s) n)) with ⟨b, r⟩
      cases r with
      | none => rw [pass_bad hlt h0 hm] at hp; cases hp
      | some m =>
        rw [pass_yes hlt h0 hm] at hp
        have b1 := p2 f hmu.two.1 (Nat.le_refl _) (by omega)
        have b2 := p2 (f + s) hmu.two.2.1 (by omega) hlt
        rw [Nat.min_eq_left (by omega)] at b1
        rw [show f + s + s = f + 2 * s by omega] at b2
        have hml : m.length = min (f + 2 * s) n - f := by
          have := mg_len hm
          rw [seg_length (by omega), seg_length (by omega)] at this
          omega
        have hmem : ∀ x ∈ m, f ≤ x ∧ x < min (f + 2 * s) n := fun x hx => by
          have := (mg_perm M _ _ hm).mem_iff.1 hx
          rcases List.mem_append.1 this with hx | hx
          · have := b1.2 x hx; omega
          · have := b2.2 x hx; omega
        have hpe : List.Perm (o.take f ++ m ++ o.drop (min (f + 2 * s) n)) o := by
          have h1 : List.Perm (o.take f ++ m ++ o.drop (min (f + 2 * s) n)) (o.take f ++ (seg o f (f + s) ++ seg o (f + s) (min (f + 2 * s) n)) ++ o.drop (min (f + 2 * s) n)) :=
            ((List.Perm.refl _).append (mg_perm M _ _ hm)).append (List.Perm.refl _)
          rwa [seg_join (by omega) (by omega)] at h1
        refine ih (n - (f + 2 * s)) (by omega) hmu.two.2.2 (hpe.length_eq.trans ho) (fun z hz' => hz z (hpe.mem_iff.1 hz')) (fun g hg hgf hgn => ?_) (fun g hg hgf hgn => ?_) hp rfl
        · by_cases hgf' : g < f
          · have hgap := hg.gap hmu hgf'
            have e1 : min (g + 2 * s) n = g + 2 * s := Nat.min_eq_left (by omega)
            have := p1 g hg hgf' hgn
            rw [e1] at this ⊢
            unfold Blk at this ⊢
            rw [List.append_assoc, seg_before (by omega) hgap]
            exact this
          · have hge : g = f := by
              by_cases e : f < g
              · have := hmu.gap hg e; omega
              · omega
            subst hge
            unfold Blk
            rw [seg_mid (by omega) hml]
            refine ⟨mg_St h _ _ (fun x hx => ?_) (fun x hx => ?_) b1.1 b2.1 (fun x hx y hy => ?_) hm, hmem⟩
            · have := b1.2 x hx; omega
            · have := b2.2 x hx; omega
            · have := b1.2 x hx; have := b2.2 y hy; omega
        · have := p2 g hg (by omega) hgn
          unfold Blk at this ⊢
          rw [seg_after (by omega) hml (by omega) (by omega)]
          exact this
    · rw [pass_no hlt] at hp
      cases hp
      intro g hg hgn
      by_cases hgf : g < f
      · exact p1 g hg hgf hgn
      · have hge : g = f := by
          by_cases e : f < g
          · have := hmu.gap hg e; omega
          · omega
        subst hge
        have := p2 g hmu.two.1 (Nat.le_refl _) hgn
        rw [Nat.min_eq_right (by omega)] at this ⊢
        exact this

theorem all_St {n : Nat} {M : Nat → Nat → Int} (h : Ord n M) : ∀ {s : Nat} {o : List Nat} {q a o'}, 0 < s → o.length = n → (∀ z ∈ o, z < n) → (∀ g, Mu s g → g < n → Blk M o g (min (g + s) n)) → all M n s o q = (a, some o') → 0 < n → Blk M o' 0 n := by
  intro s o q a o' h0 ho hz p2 hp hn
  induction hk : n - s using Nat.strongRecOn generalizing s o q with
  | _ k ih =>
    by_cases hlt : s < n
    · rcases hm : pass M n s 0 o q with ⟨b, r⟩
      cases r with
      | none => rw [all_bad hlt h0 hm] at hp; cases hp
      | some m =>
        rw [all_yes hlt h0 hm] at hp
        have hpe := pass_perm M h0 ho hm
        have := pass_St h h0 ⟨0, by simp⟩ ho hz (fun g _ x => absurd x (Nat.not_lt_zero _)) (fun g hg _ hgn => p2 g hg hgn) hm
        exact ih (n - 2 * s) (by omega) (by omega) (hpe.length_eq.trans ho) (fun z hz' => hz z (hpe.mem_iff.1 hz')) this hp rfl
    · rw [all_no hlt] at hp
      cases hp
      have := p2 0 ⟨0, by simp⟩ hn
      rw [Nat.zero_add, Nat.min_eq_right (by omega)] at this
      exact this

theorem sorted_St {n : Nat} {M : Nat → Nat → Int} (h : Ord n M) {a o} (hs : sorted M n = (a, some o)) : o.Pairwise (St M) := by
  have hl : o.length = n := by simpa using (sorted_perm hs).length_eq
  by_cases hn : 0 < n
  · have := all_St h (by omega) (by simp) (by simp) (fun g _ hgn => ?_) hs hn
    · have := this.1
      unfold seg at this
      rw [List.drop_zero, List.take_of_length_le (by omega)] at this
      exact this
    · rw [Nat.min_eq_left (by omega)]
      refine ⟨?_, fun x hx => seg_range hx⟩
      have hlen : (seg (List.range n) g (g + 1)).length = 1 := by rw [seg_length (by simp; omega)]; omega
      obtain ⟨x, hx⟩ := List.length_eq_one_iff.1 hlen
      rw [hx]
      exact List.pairwise_singleton _ _
  · have : o = [] := List.length_eq_zero_iff.1 (by omega)
    subst this
    exact List.Pairwise.nil

/-- Where an item stands. -/
def pos (o : List Nat) (x : Nat) : Nat := o.idxOf x

theorem pos_St {M : Nat → Nat → Int} {o : List Nat} (h : o.Pairwise (St M)) {a b : Nat} (ha : a ∈ o) (hb : b ∈ o) (hlt : pos o b < pos o a) : St M b a := by
  have la := List.idxOf_lt_length_of_mem ha
  have lb := List.idxOf_lt_length_of_mem hb
  have := List.pairwise_iff_getElem.1 h (o.idxOf b) (o.idxOf a) lb la hlt
  rwa [List.getElem_idxOf, List.getElem_idxOf] at this

theorem place_one {n : Nat} {M : Nat → Nat → Int} (h : Ord n M) {q o} (hs : sorted M n = (q, some o)) {a b : Nat} (ha : a < n) (hb : b < n) (e : M a b = 1) : pos o a ≤ pos o b := by
  by_cases hlt : pos o b < pos o a
  · have hp := sorted_perm hs
    rcases pos_St (sorted_St h hs) (hp.mem_iff.2 (List.mem_range.2 ha)) (hp.mem_iff.2 (List.mem_range.2 hb)) hlt with e1 | ⟨e1, e2, _⟩
    · exact absurd ⟨e, e1⟩ (h.rkd a ha b hb).2.1
    · omega
  · omega
theorem place_zero {n : Nat} {M : Nat → Nat → Int} (h : Ord n M) {q o} (hs : sorted M n = (q, some o)) {a b : Nat} (ha : a < n) (hb : b < n) (hab : a < b) (e' : M b a = 0) : pos o a ≤ pos o b := by
  by_cases hlt : pos o b < pos o a
  · have hp := sorted_perm hs
    rcases pos_St (sorted_St h hs) (hp.mem_iff.2 (List.mem_range.2 ha)) (hp.mem_iff.2 (List.mem_range.2 hb)) hlt with e1 | ⟨e1, e2, _⟩
    · omega
    · omega
  · omega

end Go.Proofs.YtgflalfiopnmnaaDoor.So
