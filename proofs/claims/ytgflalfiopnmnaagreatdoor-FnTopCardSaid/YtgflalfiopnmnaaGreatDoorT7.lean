import Derived.Test.YtgflalfiopnmnaaGreatDoorT2
import Derived.Test.YtgflalfiopnmnaaGreatDoorT4
import Derived.Test.YtgflalfiopnmnaaGreatDoorVlKo
import Derived.Sort.Grow
import Derived.Shelf.SlSortCmp.WholeK
import Derived.Shelf.SlLaysF0
import Derived.Test.YtgflalfiopnmnaaGreatDoorT3
import Derived.ChangeKeysEq
import Derived.Laws.Tables
import Derived.Deep.MidRow
import Derived.Laws.Rows
import Derived.Test.YtgflalfiopnmnaaGreatDoorVlLess
namespace Go.Proofs.YtgflalfiopnmnaaGreatDoor.Aw
open Vl

theorem eqV_refl (x : V) : eqV x x = true := eqV_iff.2 rfl

structure E where
  a : V
  b : V
  p : List V

structure Sys where
  tab : V → Bool
  atA : V → V → V
  atB : V → V → V
  kids : V → V → List V
  D : V → V → Bool

def Sys.cp (S : Sys) (e : E) : Bool := S.tab e.a && S.tab e.b
def Sys.part (S : Sys) (e : E) : Bool := !(S.tab e.a && S.tab e.b) && !(eqV e.a e.b)
def Sys.child (S : Sys) (e : E) (k : V) : E := ⟨S.atA e.a k, S.atB e.b k, e.p ++ [k]⟩
def same (c y : E) : Bool := eqV y.a c.a && eqV y.b c.b
def Sys.add (S : Sys) (l : List (E)) (c : E) : List (E) := if S.cp c && l.any (same c) then l else l ++ [c]
def Sys.grow (S : Sys) (l : List (E)) (e : E) : List (E) := (S.kids e.a e.b).foldl (fun l k => S.add l (S.child e k)) l
def Sys.iadd (S : Sys) (l : List (E)) (c : E) : List (E) := if S.cp c && S.D c.a c.b && !(l.any (same c)) then l ++ [c] else l
def Sys.igrow (S : Sys) (l : List (E)) (e : E) : List (E) := (S.kids e.a e.b).foldl (fun l k => S.iadd l (S.child e k)) l

inductive SReach (S : Sys) (r : E) : Nat → List (E) → Prop
  | start : SReach S r 0 [r]
  | plain {i : Nat} {l : List (E)} {e : E} : SReach S r i l → l[i]? = some e → S.cp e = false → S.part e = false → SReach S r (i + 1) l
  | couple {i : Nat} {l : List (E)} {e : E} : SReach S r i l → l[i]? = some e → S.cp e = true → SReach S r (i + 1) (S.grow l e)

inductive IReach (S : Sys) (r : E) : Nat → List (E) → Prop
  | start : IReach S r 0 (S.iadd [] r)
  | step {j : Nat} {q : List (E)} {e : E} : IReach S r j q → q[j]? = some e → (∀ k ∈ S.kids e.a e.b, S.part (S.child e k) = false) → IReach S r (j + 1) (S.igrow q e)

def IDone (S : Sys) (r : E) (ans : List V) : Prop :=
  (∃ j q e pre k post, IReach S r j q ∧ q[j]? = some e ∧ S.kids e.a e.b = pre ++ k :: post ∧ (∀ k' ∈ pre, S.part (S.child e k') = false) ∧ S.part (S.child e k) = true ∧ ans = e.p ++ [k]) ∨ (∃ j q, IReach S r j q ∧ q.length ≤ j ∧ ans = [])

def Sys.live (S : Sys) (e : E) : Bool := S.cp e && S.D e.a e.b

theorem fold_pre {S : Sys} (e : E) : ∀ (ks : List V) (l : List (E)), ∃ t, ks.foldl (fun l k => S.add l (S.child e k)) l = l ++ t ∧ ∀ c ∈ t, ∃ k ∈ ks, c = S.child e k
  | [], l => ⟨[], by simp, by simp⟩
  | k :: ks, l => by
    simp only [List.foldl_cons]
    obtain ⟨t, h1, h2⟩ := fold_pre e ks (S.add l (S.child e k))
    rw [h1]
    unfold Sys.add
    split
    · exact ⟨t, rfl, fun c hc => by obtain ⟨k', h, h'⟩ := h2 c hc; exact ⟨k', by simp [h], h'⟩⟩
    · refine ⟨S.child e k :: t, by simp, fun c hc => ?_⟩
      rcases List.mem_cons.1 hc with rfl | hc
      · exact ⟨k, by simp, rfl⟩
      · obtain ⟨k', h, h'⟩ := h2 c hc; exact ⟨k', by simp [h], h'⟩

theorem grow_pre {S : Sys} (l : List (E)) (e : E) : ∃ t, S.grow l e = l ++ t ∧ ∀ c ∈ t, ∃ k ∈ S.kids e.a e.b, c = S.child e k := fold_pre e _ l

theorem take_next {l : List (E)} {i : Nat} {e : E} (h : l[i]? = some e) : l.take (i + 1) = l.take i ++ [e] := by
  rw [List.take_add_one, h]; rfl

theorem nodup_len : ∀ (N : Nat) (l : List Nat), l.Nodup → (∀ x ∈ l, x < N) → l.length ≤ N
  | 0, l, _, h => by
    cases l with
    | nil => simp
    | cons x xs => have := h x (by simp); omega
  | N + 1, l, hn, h => by
    have h1 := nodup_len N (l.erase N) (hn.erase N) (fun x hx => by
      have h2 := (hn.mem_erase_iff).1 hx
      have := h x h2.2
      have := h2.1
      omega)
    rw [List.length_erase] at h1
    split at h1 <;> omega

structure Ix (S : Sys) (G : V → V → Prop) (ix : V → V → Nat) (N : Nat) : Prop where
  lt : ∀ x y, G x y → S.tab x = true → S.tab y = true → ix x y < N
  one : ∀ x y x' y', G x y → S.tab x = true → S.tab y = true → G x' y' → S.tab x' = true → S.tab y' = true → ix x y = ix x' y' → x = x' ∧ y = y'

structure Wide (S : Sys) (G : V → V → Prop) (ix : V → V → Nat) (l : List (E)) (i : Nat) : Prop where
  good : ∀ e ∈ l, G e.a e.b
  path : ∀ e ∈ l, e.p.length ≤ i
  once : ((l.filter S.cp).map fun e => ix e.a e.b).Nodup

theorem Wide.add {S : Sys} {G : V → V → Prop} {ix : V → V → Nat} {N : Nat} (hI : Ix S G ix N) {l : List (E)} {i : Nat} (h : Wide S G ix l i) {c : E} (hg : G c.a c.b) (hp : c.p.length ≤ i) : Wide S G ix (S.add l c) i := by
  unfold Sys.add
  split
  · exact h
  · rename_i hm
    refine ⟨fun e he => ?_, fun e he => ?_, ?_⟩
    · rcases List.mem_append.1 he with he | he
      · exact h.good e he
      · simp at he; rw [he]; exact hg
    · rcases List.mem_append.1 he with he | he
      · exact h.path e he
      · simp at he; rw [he]; exact hp
    · rw [List.filter_append]
      cases hc : S.cp c with
      | false => simp [hc, h.once]
      | true =>
        simp only [hc, Bool.true_and] at hm
        have hct : S.tab c.a = true ∧ S.tab c.b = true := by unfold Sys.cp at hc; simpa using hc
        simp only [List.filter_cons, hc, if_true, List.filter_nil, List.map_append, List.map_cons, List.map_nil]
        rw [List.nodup_append]
        refine ⟨h.once, by simp, ?_⟩
        intro a ha b hb e
        simp at hb
        subst hb
        obtain ⟨y, hy, rfl⟩ := List.mem_map.1 ha
        rw [List.mem_filter] at hy
        have hyt : S.tab y.a = true ∧ S.tab y.b = true := by have := hy.2; unfold Sys.cp at this; simpa using this
        obtain ⟨e1, e2⟩ := hI.one _ _ _ _ (h.good y hy.1) hyt.1 hyt.2 hg hct.1 hct.2 e
        apply hm
        rw [List.any_eq_true]
        exact ⟨y, hy.1, by simp [same, eqV_iff, e1, e2]⟩

theorem Wide.more {S : Sys} {G : V → V → Prop} {ix : V → V → Nat} {l : List (E)} {i : Nat} (h : Wide S G ix l i) : Wide S G ix l (i + 1) := ⟨h.good, fun e he => by have := h.path e he; omega, h.once⟩

theorem Wide.fold {S : Sys} {G : V → V → Prop} {ix : V → V → Nat} {N : Nat} (hI : Ix S G ix N) {e : E} {i : Nat} : ∀ (ks : List V) (l : List (E)), Wide S G ix l i → (∀ k ∈ ks, G (S.atA e.a k) (S.atB e.b k)) → e.p.length + 1 ≤ i → Wide S G ix (ks.foldl (fun l k => S.add l (S.child e k)) l) i
  | [], _, h, _, _ => h
  | k :: ks, l, h, hg, hp => by
    simp only [List.foldl_cons]
    exact Wide.fold hI ks _ (h.add hI (hg k (by simp)) (by simp [Sys.child]; omega)) (fun k' hk' => hg k' (by simp [hk'])) hp

theorem fold_len {S : Sys} (e : E) : ∀ (ks : List V) (l : List (E)), (ks.foldl (fun l k => S.add l (S.child e k)) l).length ≤ l.length + ks.length
  | [], l => by simp
  | k :: ks, l => by
    simp only [List.foldl_cons, List.length_cons]
    have h1 := fold_len (S := S) e ks (S.add l (S.child e k))
    have h2 : (S.add l (S.child e k)).length ≤ l.length + 1 := by unfold Sys.add; split <;> simp
    omega

def Nexts (S : Sys) (G : V → V → Prop) : Prop := ∀ x y, G x y → S.tab x = true → S.tab y = true → ∀ k ∈ S.kids x y, G (S.atA x k) (S.atB y k)

theorem SReach.wide {S : Sys} {G : V → V → Prop} {ix : V → V → Nat} {N K : Nat} (hF : Nexts S G) (hI : Ix S G ix N) (hK : ∀ x y, G x y → S.tab x = true → S.tab y = true → (S.kids x y).length ≤ K) {r : E} (hr : G r.a r.b) (hp0 : r.p = []) {i : Nat} {l : List (E)} (h : SReach S r i l) : Wide S G ix l i ∧ l.length ≤ 1 + K * ((l.take i).filter S.cp).length := by
  induction h with
  | start =>
    refine ⟨⟨by simpa using hr, by simp [hp0], ?_⟩, by simp⟩
    cases hc : S.cp r <;> simp [hc]
  | @plain i l e h1 h2 h3 h4 ih =>
    refine ⟨ih.1.more, ?_⟩
    rw [take_next h2, List.filter_append]
    simp only [List.filter_cons, h3, List.filter_nil]
    simpa using ih.2
  | @couple i l e h1 h2 h3 ih =>
    have he : e ∈ l := List.mem_of_getElem? h2
    have h3' : S.tab e.a = true ∧ S.tab e.b = true := by unfold Sys.cp at h3; simpa using h3
    have hlt := (List.getElem?_eq_some_iff.1 h2).1
    obtain ⟨t, t1, _⟩ := grow_pre (S := S) l e
    have htk : (S.grow l e).take (i + 1) = l.take i ++ [e] := by
      rw [t1, List.take_append_of_le_length (by omega), take_next h2]
    refine ⟨Wide.fold hI _ _ ih.1.more (hF _ _ (ih.1.good e he) h3'.1 h3'.2) (by have := ih.1.path e he; omega), ?_⟩
    rw [htk, List.filter_append]
    have h5 := fold_len (S := S) e (S.kids e.a e.b) l
    have h6 := hK _ _ (ih.1.good e he) h3'.1 h3'.2
    have h7 := ih.2
    simp only [List.filter_cons, h3, if_true, List.filter_nil, List.length_append, List.length_cons, List.length_nil, Nat.mul_add, Nat.zero_add, Nat.mul_one]
    unfold Sys.grow
    omega

theorem Wide.few {S : Sys} {G : V → V → Prop} {ix : V → V → Nat} {N i : Nat} (hI : Ix S G ix N) {l : List (E)} (h : Wide S G ix l i) : (l.filter S.cp).length ≤ N := by
  have := nodup_len N _ h.once (fun x hx => by
    obtain ⟨y, hy, rfl⟩ := List.mem_map.1 hx
    rw [List.mem_filter] at hy
    have hyt : S.tab y.a = true ∧ S.tab y.b = true := by have := hy.2; unfold Sys.cp at this; simpa using this
    exact hI.lt _ _ (h.good y hy.1) hyt.1 hyt.2)
  simpa using this

theorem SReach.len {S : Sys} {G : V → V → Prop} {ix : V → V → Nat} {N K : Nat} (hF : Nexts S G) (hI : Ix S G ix N) (hK : ∀ x y, G x y → S.tab x = true → S.tab y = true → (S.kids x y).length ≤ K) {r : E} (hr : G r.a r.b) (hp0 : r.p = []) {i : Nat} {l : List (E)} (h : SReach S r i l) : l.length ≤ 1 + K * N := by
  obtain ⟨h1, h2⟩ := h.wide hF hI hK hr hp0
  have h3 := h1.few hI
  have h4 : ((l.take i).filter S.cp).length ≤ (l.filter S.cp).length := ((List.take_sublist i l).filter _).length_le
  have : K * ((l.take i).filter S.cp).length ≤ K * N := Nat.mul_le_mul_left _ (by omega)
  omega

theorem iadd_eq {S : Sys} (q : List (E)) (c : E) : S.iadd q c = q ∨ (S.iadd q c = S.add q c ∧ S.live c = true) := by
  unfold Sys.iadd Sys.add
  by_cases hl : S.live c = true
  · have hcp : S.cp c = true := by unfold Sys.live at hl; simp at hl; exact hl.1
    have hD : S.D c.a c.b = true := by unfold Sys.live at hl; simp at hl; exact hl.2
    rw [hcp, hD]
    cases q.any (same c) <;> simp [hl]
  · have : (S.cp c && S.D c.a c.b) = false := (Bool.not_eq_true _).mp hl
    rw [this]; simp

structure IWide (S : Sys) (G : V → V → Prop) (ix : V → V → Nat) (q : List (E)) (i : Nat) : Prop where
  wide : Wide S G ix q i
  live : ∀ e ∈ q, S.live e = true

theorem IWide.add {S : Sys} {G : V → V → Prop} {ix : V → V → Nat} {N : Nat} (hI : Ix S G ix N) {q : List (E)} {i : Nat} (h : IWide S G ix q i) {c : E} (hg : G c.a c.b) (hp : c.p.length ≤ i) : IWide S G ix (S.iadd q c) i := by
  rcases iadd_eq (S := S) q c with e | ⟨e, hl⟩
  · rw [e]; exact h
  · rw [e]
    refine ⟨h.wide.add hI hg hp, fun x hx => ?_⟩
    unfold Sys.add at hx
    split at hx
    · exact h.live x hx
    · rcases List.mem_append.1 hx with hx | hx
      · exact h.live x hx
      · simp at hx; rw [hx]; exact hl

theorem IWide.fold {S : Sys} {G : V → V → Prop} {ix : V → V → Nat} {N : Nat} (hI : Ix S G ix N) {e : E} {i : Nat} : ∀ (ks : List V) (q : List (E)), IWide S G ix q i → (∀ k ∈ ks, G (S.atA e.a k) (S.atB e.b k)) → e.p.length + 1 ≤ i → IWide S G ix (ks.foldl (fun l k => S.iadd l (S.child e k)) q) i
  | [], _, h, _, _ => h
  | k :: ks, q, h, hg, hp => by
    simp only [List.foldl_cons]
    exact IWide.fold hI ks _ (h.add hI (hg k (by simp)) (by simp [Sys.child]; omega)) (fun k' hk' => hg k' (by simp [hk'])) hp

theorem IReach.wide {S : Sys} {G : V → V → Prop} {ix : V → V → Nat} {N : Nat} (hF : Nexts S G) (hI : Ix S G ix N) {r : E} (hr : G r.a r.b) (hp0 : r.p = []) {j : Nat} {q : List (E)} (h : IReach S r j q) : IWide S G ix q j := by
  induction h with
  | start => exact IWide.add hI ⟨⟨by simp, by simp, by simp⟩, by simp⟩ hr (by simp [hp0])
  | @step j q e h1 h2 h3 ih =>
    have he : e ∈ q := List.mem_of_getElem? h2
    have hl := ih.live e he
    have h3' : S.tab e.a = true ∧ S.tab e.b = true := by unfold Sys.live Sys.cp at hl; simp at hl; exact hl.1
    exact IWide.fold hI _ _ ⟨ih.wide.more, ih.live⟩ (hF _ _ (ih.wide.good e he) h3'.1 h3'.2) (by have := ih.wide.path e he; omega)

theorem IWide.len {S : Sys} {G : V → V → Prop} {ix : V → V → Nat} {N i : Nat} (hI : Ix S G ix N) {q : List (E)} (h : IWide S G ix q i) : q.length ≤ N := by
  have h1 := h.wide.few hI
  have : q.filter S.cp = q := List.filter_eq_self.2 (fun e he => by have := h.live e he; unfold Sys.live at this; simp at this; exact this.1)
  rw [this] at h1
  exact h1

end Go.Proofs.YtgflalfiopnmnaaGreatDoor.Aw

namespace Go.Proofs.YtgflalfiopnmnaaGreatDoor
open Go Vl

theorem bl_trans : ∀ x y z : List UInt8, Op.bytesLess x y = true → Op.bytesLess y z = true → Op.bytesLess x z = true
  | [], [], _, h, _ => by simp [Op.bytesLess] at h
  | [], _ :: _, [], _, h => by simp [Op.bytesLess] at h
  | [], _ :: _, _ :: _, _, _ => by simp [Op.bytesLess]
  | _ :: _, [], _, h, _ => by simp [Op.bytesLess] at h
  | _ :: _, _ :: _, [], _, h => by simp [Op.bytesLess] at h
  | a :: x, b :: y, c :: z, h, k => by
    simp only [Op.bytesLess, Bool.or_eq_true, decide_eq_true_eq, Bool.and_eq_true, beq_iff_eq] at h k ⊢
    rcases h with h | ⟨rfl, h⟩
    · rcases k with k | ⟨rfl, _⟩
      · exact Or.inl (UInt8.lt_trans h k)
      · exact Or.inl h
    · rcases k with k | ⟨rfl, k⟩
      · exact Or.inl k
      · exact Or.inr ⟨rfl, bl_trans x y z h k⟩
theorem bl_ntrans {x y z : List UInt8} (h : Op.bytesLess x y = false) (k : Op.bytesLess y z = false) : Op.bytesLess x z = false := by
  cases hz : Op.bytesLess x z
  · rfl
  · exfalso
    have ht := bl_total x y
    rw [h] at ht
    by_cases e : x = y
    · subst e; rw [hz] at k; cases k
    · have : (x == y) = false := by simpa using e
      rw [this] at ht
      have hyx : Op.bytesLess y x = true := by rw [← ht]; rfl
      have := bl_trans y x z hyx hz
      rw [this] at k
      cases k

theorem le_trans {a b c : V} (h : less b a = false) (k : less c b = false) : less c a = false := by
  unfold less at *
  by_cases h1 : b.k = a.k
  · rw [if_pos h1] at h
    by_cases h2 : c.k = b.k
    · rw [if_pos h2] at k
      rw [if_pos (h2.trans h1)]
      by_cases h3 : b.k = 3
      · rw [if_pos h3] at h
        rw [if_pos (by omega)] at k ⊢
        exact bl_ntrans k h
      · rw [if_neg h3] at h
        rw [if_neg (by omega)] at k ⊢
        simp at h k ⊢
        omega
    · rw [if_neg h2] at k
      rw [if_neg (by omega)]
      simp at k ⊢
      omega
  · rw [if_neg h1] at h
    by_cases h2 : c.k = b.k
    · rw [if_neg (by omega)]
      simp at h ⊢
      omega
    · rw [if_neg h2] at k
      simp at h k
      by_cases h3 : c.k = a.k
      · omega
      · rw [if_neg h3]
        simp
        omega

theorem key_one {a b : V} (ha : isK a = true) (hb : isK b = true) (h : less a b = false) (k : less b a = false) : a = b := by
  have hk : ko a b = 0 := by unfold ko; simp [ha, hb, h, k]
  have h2 : ko a b ≠ 2 := by omega
  have := ko_zero h2
  rw [hk] at this
  exact eqV_iff.1 (by rw [← this]; rfl)

def SortW (K : Nat → V) (ls : List Nat) : Prop := ls.Pairwise fun a b => less (K b) (K a) = false

theorem sort_one {K : Nat → V} : ∀ {ls ms : List Nat}, (∀ a ∈ ls, ∀ b ∈ ls, less (K a) (K b) = false → less (K b) (K a) = false → a = b) → ls.Perm ms → SortW K ls → SortW K ms → ls = ms
  | [], ms, _, hp, _, _ => by
    have := hp.length_eq
    cases ms with
    | nil => rfl
    | cons => simp at this
  | a :: ls, [], _, hp, _, _ => by have := hp.length_eq; simp at this
  | a :: ls, b :: ms, hd, hp, h1, h2 => by
    obtain ⟨p1, p2⟩ := List.pairwise_cons.1 h1
    obtain ⟨q1, q2⟩ := List.pairwise_cons.1 h2
    have e : a = b := by
      by_cases e : a = b
      · exact e
      · have ha : a ∈ ms := by
          have : a ∈ b :: ms := hp.subset (by simp)
          rcases List.mem_cons.1 this with h | h
          · exact absurd h e
          · exact h
        have hb : b ∈ ls := by
          have : b ∈ a :: ls := hp.symm.subset (by simp)
          rcases List.mem_cons.1 this with h | h
          · exact absurd h.symm e
          · exact h
        exact hd a (by simp) b (by simp [hb]) (q1 a ha) (p1 b hb)
    subst e
    rw [sort_one (fun x hx y hy => hd x (by simp [hx]) y (by simp [hy])) (List.Perm.cons_inv hp) p2 q2]

structure SortI (K : Nat → V) (L : Nat) (ls : List Nat) : Prop where
  perm : ls.Perm (List.range L)
  sort : SortW K ls
theorem SortI.len {K : Nat → V} {L : Nat} {ls : List Nat} (h : SortI K L ls) : ls.length = L := by rw [h.perm.length_eq]; simp
theorem SortI.lt {K : Nat → V} {L : Nat} {ls : List Nat} (h : SortI K L ls) {i : Nat} (hi : i < L) : ls.getD i 0 < L := by
  rw [List.getD_eq_getElem?_getD, List.getElem?_eq_getElem (by rw [h.len]; exact hi)]
  exact List.mem_range.1 (h.perm.subset (List.getElem_mem _))
theorem SortI.one {n : Nat} {K X : Nat → V} {L : Nat} {ls ms : List Nat} (hk : OkT n L K X) (h : SortI K L ls) (k : SortI K L ms) : ls = ms := by
  refine sort_one (K := K) (fun a ha b hb h1 h2 => ?_) (h.perm.trans k.perm.symm) h.sort k.sort
  have la := List.mem_range.1 (h.perm.subset ha)
  have lb := List.mem_range.1 (h.perm.subset hb)
  have e := key_one (hk.all a la).key (hk.all b lb).key h1 h2
  rcases Nat.lt_trichotomy a b with h' | h' | h'
  · have := (hk.all b lb).once a h'
    rw [e] at this
    simp [eqV] at this
  · exact h'
  · have := (hk.all a la).once b h'
    rw [e] at this
    simp [eqV] at this

end Go.Proofs.YtgflalfiopnmnaaGreatDoor

namespace Go.Proofs.YtgflalfiopnmnaaGreatDoor
open Go.RowKit Vl

structure Ap (w : World) (base n : Nat) (T M : Nat → Nat) : Prop where
  lo : ∀ j, j < n → base ≤ T j
  own : ∀ j a o g, j < n → TabB w (T j) (M j) a o → o.ownBlock = some g → base ≤ g
  one : ∀ i j a o a' o' g, i < n → j < n → TabB w (T i) (M i) a o → TabB w (T j) (M j) a' o' → o.ownBlock = some g → o'.ownBlock = some g → i = j
  mlo : ∀ j, j < n → base ≤ M j
  mone : ∀ i j, i < n → j < n → M i = M j → i = j

theorem Ap.same {w w' : World} {base n : Nat} {T M : Nat → Nat} (h : Ap w base n T M) (hs : ∀ j, j < n → w'.heap[T j]? = w.heap[T j]?) : Ap w' base n T M := by
  have e : ∀ j a o, j < n → TabB w' (T j) (M j) a o → TabB w (T j) (M j) a o := fun j a o hj h' => (hs j hj).symm.trans h'
  exact ⟨h.lo, fun j a o g hj ht hg => h.own j a o g hj (e j a o hj ht) hg, fun i j a o a' o' g hi hj h1 h2 => h.one i j a o a' o' g hi hj (e i a o hi h1) (e j a' o' hj h2), h.mlo, h.mone⟩
end Go.Proofs.YtgflalfiopnmnaaGreatDoor

namespace Go.Proofs.YtgflalfiopnmnaaGreatDoor.Dr
open Go.RowKit Vl Go.Proofs.YtgflalfiopnmnaaGreatDoor Go.Sort

structure Below (B : Nat) (w w' : World) : Prop where
  b : Go.RowKit.Below B w w'
  d : w.drawn ≤ w'.drawn
theorem Below.refl (B : Nat) (w : World) : Below B w w := ⟨Go.RowKit.Below.refl _ _, Nat.le_refl _⟩
theorem Below.trans {B : Nat} {a b c : World} (h : Below B a b) (k : Below B b c) : Below B a c := ⟨h.b.trans k.b, Nat.le_trans h.d k.d⟩
theorem Below.mono {B B' : Nat} {w w' : World} (h : Below B w w') (hB : B' ≤ B) : Below B' w w' := ⟨h.b.mono hB, h.d⟩
theorem Below.drew {B : Nat} {a w : World} (h : Below B a w) : Below B a w.drew := ⟨h.b.drew, Nat.le_succ_of_le h.d⟩
theorem Below.alloc {B : Nat} {a w : World} (h : Below B a w) (hB : B ≤ w.heap.size) (o : Obj) : Below B a (w.alloc o) := ⟨h.b.alloc hB o, h.d⟩
theorem Below.cell {B : Nat} {w w' : World} (h : Below B w w') {p : Addr} (hp : p.block < B) : w'.cell? p = w.cell? p := h.b.cell hp
theorem Below.size {B : Nat} {w w' : World} (h : Below B w w') : w.heap.size ≤ w'.heap.size := h.b.size
theorem below_drewN {B : Nat} {a w : World} (h : Below B a w) (n : Nat) : Below B a (w.drewN n) := ⟨Go.RowKit.Below.trans h.b ⟨rfl, rfl, rfl, Nat.le_refl _, fun _ _ => rfl⟩, Nat.le_trans h.d (Nat.le_add_right _ _)⟩

theorem grw {a b c : World} (h : Below a.heap.size a b) (k : Below b.heap.size b c) : Below a.heap.size a c := h.trans (k.mono h.size)

theorem asNil_any (w : World) :
    Calls Tryz.prog 213 #[.agg #[]] w fun e w' => e = .returned (.agg #[.int .i64 0, .int .i64 0, .string ⟨#[]⟩, .int .i64 0]) ∧ Below w.heap.size w w' := by
  go_enter Tryz.func213, Tryz.ntmps213
  go_wp2
  refine bodyPost_ret (v := .agg #[.int .i64 0, .int .i64 0, .string ⟨#[]⟩, .int .i64 0]) (by simp [results, Tryz.results213, go_sem]) rfl ⟨rfl, ?_⟩
  exact ((Below.refl _ _).alloc (Nat.le_refl _) _).alloc (by simp) _

theorem asBool_any (b : Bool) (w : World) :
    Calls Tryz.prog 225 #[.agg #[.bool b]] w fun e w' => e = .returned (.agg #[.int .i64 1, .int .i64 (if b then 1 else 0), .string ⟨#[]⟩, .int .i64 0]) ∧ Below w.heap.size w w' := by
  cases b
  all_goals
    go_enter Tryz.func225, Tryz.ntmps225
    go_wp2
  · refine bodyPost_ret (v := .agg #[.int .i64 1, .int .i64 0, .string ⟨#[]⟩, .int .i64 0]) (by simp [results, Tryz.results225, go_sem]) rfl ⟨rfl, ?_⟩
    exact ((Below.refl _ _).alloc (Nat.le_refl _) _).alloc (by simp) _
  · refine bodyPost_ret (v := .agg #[.int .i64 1, .int .i64 1, .string ⟨#[]⟩, .int .i64 0]) (by simp [results, Tryz.results225, go_sem]) rfl ⟨rfl, ?_⟩
    exact ((Below.refl _ _).alloc (Nat.le_refl _) _).alloc (by simp) _

theorem asInt_any (n : Int) (w : World) :
    Calls Tryz.prog 226 #[.agg #[.int .i64 n]] w fun e w' => e = .returned (.agg #[.int .i64 2, .int .i64 n, .string ⟨#[]⟩, .int .i64 0]) ∧ Below w.heap.size w w' := by
  go_enter Tryz.func226, Tryz.ntmps226
  go_wp2
  refine bodyPost_ret (v := .agg #[.int .i64 2, .int .i64 n, .string ⟨#[]⟩, .int .i64 0]) (by simp [results, Tryz.results226, go_sem]) rfl ⟨rfl, ?_⟩
  exact ((Below.refl _ _).alloc (Nat.le_refl _) _).alloc (by simp) _

theorem asText_any (s : ByteArray) (w : World) :
    Calls Tryz.prog 227 #[.agg #[.string s]] w fun e w' => e = .returned (.agg #[.int .i64 3, .int .i64 0, .string s, .int .i64 0]) ∧ Below w.heap.size w w' := by
  go_enter Tryz.func227, Tryz.ntmps227
  go_wp2
  refine bodyPost_ret (v := .agg #[.int .i64 3, .int .i64 0, .string s, .int .i64 0]) (by simp [results, Tryz.results227, go_sem]) rfl ⟨rfl, ?_⟩
  exact ((Below.refl _ _).alloc (Nat.le_refl _) _).alloc (by simp) _

theorem asTab_any (b : Nat) (i : Int) (w : World) (h : w.cell? ⟨b, 0, none⟩ = some (.int .i64 i)) :
    Calls Tryz.prog 209 #[.pointer (some ⟨b, 0, none⟩)] w fun e w' => e = .returned (.agg #[.int .i64 4, .int .i64 0, .string ⟨#[]⟩, .int .i64 i]) ∧ Below w.heap.size w w' := by
  have hlt : b < w.heap.size := World.block_lt_of_cell? _ _ h
  go_enter Tryz.func209, Tryz.ntmps209
  go_wp2
  refine bodyPost_ret (v := .agg #[.int .i64 4, .int .i64 0, .string ⟨#[]⟩, .int .i64 i]) (by simp [results, Tryz.results209, go_sem]) rfl ⟨rfl, ?_⟩
  exact (Below.refl _ _).alloc (Nat.le_refl _) _

structure Tabs (w : World) (ta : Option Addr) (tb n : Nat) (T : Nat → Nat) : Prop where
  top : 0 < n → ta = some ⟨tb, 0, none⟩
  ptr : ∀ i, i < n → w.cell? ⟨tb, i, none⟩ = some (.pointer (some ⟨T i, 0, none⟩))
  at_ : ∀ i, i < n → w.cell? ⟨T i, 0, none⟩ = some (.int .i64 i)

theorem Tabs.below {w w' : World} {ta : Option Addr} {tb n : Nat} {T : Nat → Nat} (h : Tabs w ta tb n T) (hb : Below w.heap.size w w') : Tabs w' ta tb n T :=
  ⟨h.top, fun i hi => (hb.cell (p := ⟨tb, i, none⟩) (World.block_lt_of_cell? _ _ (h.ptr i hi))).trans (h.ptr i hi),
   fun i hi => (hb.cell (p := ⟨T i, 0, none⟩) (World.block_lt_of_cell? _ _ (h.at_ i hi))).trans (h.at_ i hi)⟩

theorem Tabs.nil (w : World) : Tabs w none 0 0 (fun _ => 0) := ⟨fun h => by omega, fun i h => by omega, fun i h => by omega⟩

def ifv (T : Nat → Nat) (v : V) : Value :=
  if v.k = 0 then .iface 180 (.agg #[])
  else if v.k = 1 then .iface 232 (.agg #[.bool (v.n == 1)])
  else if v.k = 2 then .iface 234 (.agg #[.int .i64 v.n])
  else if v.k = 3 then .iface 236 (.agg #[.string v.s])
  else .iface 107 (.pointer (some ⟨T v.a.toNat, 0, none⟩))

theorem nf_0 (n : Int) (s : ByteArray) (a : Int) (ta : Option Addr) (m cp : Nat) (w : World) :
    Calls Tryz.prog 90 #[.agg #[.int .i64 0, .int .i64 n, .string s, .int .i64 a], .slice ta m cp] w fun e w' => e = .returned (.tuple #[.iface 180 (.agg #[]), .bool true]) ∧ Below w.heap.size w w' := by
  go_enter Tryz.func90, Tryz.ntmps90
  go_wp2
  go_ret2
  exact ⟨rfl, (Below.refl _ _).alloc (Nat.le_refl _) _⟩

theorem nf_1 (n : Int) (s : ByteArray) (a : Int) (ta : Option Addr) (m cp : Nat) (w : World) :
    Calls Tryz.prog 90 #[.agg #[.int .i64 1, .int .i64 n, .string s, .int .i64 a], .slice ta m cp] w fun e w' => e = .returned (.tuple #[.iface 232 (.agg #[.bool (n == 1)]), .bool true]) ∧ Below w.heap.size w w' := by
  go_enter Tryz.func90, Tryz.ntmps90
  go_wp2
  go_ret2
  exact ⟨rfl, (Below.refl _ _).alloc (Nat.le_refl _) _⟩

theorem nf_2 (n : Int) (s : ByteArray) (a : Int) (ta : Option Addr) (m cp : Nat) (w : World) :
    Calls Tryz.prog 90 #[.agg #[.int .i64 2, .int .i64 n, .string s, .int .i64 a], .slice ta m cp] w fun e w' => e = .returned (.tuple #[.iface 234 (.agg #[.int .i64 n]), .bool true]) ∧ Below w.heap.size w w' := by
  go_enter Tryz.func90, Tryz.ntmps90
  go_wp2
  go_ret2
  exact ⟨rfl, (Below.refl _ _).alloc (Nat.le_refl _) _⟩

theorem nf_3 (n : Int) (s : ByteArray) (a : Int) (ta : Option Addr) (m cp : Nat) (w : World) :
    Calls Tryz.prog 90 #[.agg #[.int .i64 3, .int .i64 n, .string s, .int .i64 a], .slice ta m cp] w fun e w' => e = .returned (.tuple #[.iface 236 (.agg #[.string s]), .bool (decide ((s.size : Int) ≤ 500))]) ∧ Below w.heap.size w w' := by
  go_enter Tryz.func90, Tryz.ntmps90
  go_wp2
  go_quiet (fail)
  go_wp2
  go_ret2
  exact ⟨rfl, below_drewN ((Below.refl _ _).alloc (Nat.le_refl _) _) nq⟩

theorem nf_4 (n : Int) (s : ByteArray) (a : Int) (ta : Option Addr) (tb m cp : Nat) (T : Nat → Nat) (w : World) (h0 : 0 ≤ a) (h1 : a < m) (H : Hid (Tabs w ta tb m T)) :
    Calls Tryz.prog 90 #[.agg #[.int .i64 4, .int .i64 n, .string s, .int .i64 a], .slice ta m cp] w fun e w' => e = .returned (.tuple #[.iface 107 (.pointer (some ⟨T a.toNat, 0, none⟩)), .bool true]) ∧ Below w.heap.size w w' := by
  obtain ⟨j, rfl⟩ : ∃ j : Nat, a = j := ⟨a.toNat, by omega⟩
  obtain rfl := H.out.top (by omega)
  have hp := H.out.ptr j (by omega)
  have hlt : tb < w.heap.size := World.block_lt_of_cell? _ _ hp
  go_enter Tryz.func90, Tryz.ntmps90
  go_wp2
  go_ret2
  exact ⟨rfl, (Below.refl _ _).alloc (Nat.le_refl _) _⟩

theorem nf_4no (n : Int) (s : ByteArray) (a : Int) (ta : Option Addr) (m cp : Nat) (w : World) (h : ¬ (0 ≤ a ∧ a < m)) :
    Calls Tryz.prog 90 #[.agg #[.int .i64 4, .int .i64 n, .string s, .int .i64 a], .slice ta m cp] w fun e w' => e = .returned (.tuple #[.nilIface, .bool false]) ∧ Below w.heap.size w w' := by
  by_cases h0 : 0 ≤ a
  · have h1 : ¬ a < m := fun h1 => h ⟨h0, h1⟩
    go_enter Tryz.func90, Tryz.ntmps90
    go_wp2
    go_ret2
    exact ⟨rfl, (Below.refl _ _).alloc (Nat.le_refl _) _⟩
  · go_enter Tryz.func90, Tryz.ntmps90
    go_wp2
    go_ret2
    exact ⟨rfl, (Below.refl _ _).alloc (Nat.le_refl _) _⟩

theorem nf_no (k n : Int) (s : ByteArray) (a : Int) (ta : Option Addr) (m cp : Nat) (w : World) (h0 : (k == 0) = false) (h1 : (k == 1) = false) (h2 : (k == 2) = false) (h3 : (k == 3) = false) (h4 : (k == 4) = false) :
    Calls Tryz.prog 90 #[.agg #[.int .i64 k, .int .i64 n, .string s, .int .i64 a], .slice ta m cp] w fun e w' => e = .returned (.tuple #[.nilIface, .bool false]) ∧ Below w.heap.size w w' := by
  go_enter Tryz.func90, Tryz.ntmps90
  go_wp2
  go_ret2
  exact ⟨rfl, (Below.refl _ _).alloc (Nat.le_refl _) _⟩

def ValAt (w : World) (b o : Nat) (k n : Int) (s : ByteArray) (a : Int) : Prop :=
  w.cell? ⟨b, o, none⟩ = some (.int .i64 k) ∧ w.cell? ⟨b, o + 1, none⟩ = some (.int .i64 n) ∧ w.cell? ⟨b, o + 2, none⟩ = some (.string s) ∧ w.cell? ⟨b, o + 3, none⟩ = some (.int .i64 a)

theorem ValAt.below {w w' : World} {b o : Nat} {k n : Int} {s : ByteArray} {a : Int} (h : ValAt w b o k n s a) (hb : Below w.heap.size w w') : ValAt w' b o k n s a := by
  have hlt : b < w.heap.size := World.block_lt_of_cell? _ _ h.1
  exact ⟨(hb.cell hlt).trans h.1, (hb.cell hlt).trans h.2.1, (hb.cell hlt).trans h.2.2.1, (hb.cell hlt).trans h.2.2.2⟩

theorem ValAt.new (w : World) (k n : Int) (s : ByteArray) (a : Int) : ValAt (w.alloc (Obj.cells #[.int .i64 k, .int .i64 n, .string s, .int .i64 a] 24)) w.heap.size 0 k n s a := by
  refine ⟨?_, ?_, ?_, ?_⟩ <;> simp [World.cell?_alloc_new]

theorem neq_val (k n : Int) (s : ByteArray) (a : Int) (k' n' : Int) (s' : ByteArray) (a' : Int) (w : World) :
    (binOp .neq 24 (.agg #[.int .i64 k', .int .i64 n', .string s', .int .i64 a']) (.agg #[.int .i64 k, .int .i64 n, .string s, .int .i64 a])).run Tryz.prog w = .ok (.bool (!(k' == k && (n' == n && (s'.toList == s.toList && a' == a))))) w := by
  go_simp
  by_cases h1 : k' = k <;> by_cases h2 : n' = n <;> by_cases h3 : s'.toList = s.toList <;> by_cases h4 : a' = a <;> simp [h1, h2, h3, h4]

set_option maxHeartbeats 1000000 in
set_option maxRecDepth 100000 in
theorem of_yes (k n : Int) (s : ByteArray) (a : Int) (k' n' : Int) (s' : ByteArray) (a' : Int) (t : TypeId) (x : Value) (F : Nat) (ta : Option Addr) (m cp : Nat) (w : World)
    (hnf : ∀ w0, Below w.heap.size w w0 → Calls Tryz.prog 90 #[.agg #[.int .i64 k, .int .i64 n, .string s, .int .i64 a], .slice ta m cp] w0 fun e w' => e = .returned (.tuple #[.iface t x, .bool true]) ∧ Below w0.heap.size w0 w')
    (hm : ∀ w f, (method (f + 3) t x "loop.example/cloth/impl.asVal").run Tryz.prog w = .ok (F, x) w)
    (hf : ∀ args w, (callFunc F args).run Tryz.prog w = .ok (.enter F args) w)
    (hcall : ∀ w0, Below w.heap.size w w0 → Calls Tryz.prog F #[x] w0 fun e w' => e = .returned (.agg #[.int .i64 k', .int .i64 n', .string s', .int .i64 a']) ∧ Below w0.heap.size w0 w')
    (b : Bool) (hb : (k' == k && (n' == n && (s'.toList == s.toList && a' == a))) = b) :
    Calls Tryz.prog 51 #[.agg #[.int .i64 k, .int .i64 n, .string s, .int .i64 a], .slice ta m cp] w fun e w' => e = .returned (.tuple #[if b then .iface t x else .nilIface, .bool b]) ∧ Below w.heap.size w w' := by
  have hne := neq_val k n s a k' n' s' a'
  rw [hb] at hne
  have hb0 : Below w.heap.size w (w.alloc (Obj.cells #[.int .i64 k, .int .i64 n, .string s, .int .i64 a] 24)) := (Below.refl _ _).alloc (Nat.le_refl _) _
  go_enter Tryz.func51, Tryz.ntmps51
  go_wp2_with fail
  refine (hnf _ hb0).mono ?_
  rintro e w1 ⟨rfl, hb1⟩
  have hv := (ValAt.new w k n s a).below hb1
  have hB1 : Hid (Below w.heap.size w w1) := grw hb0 hb1
  have c0 := hv.1; have c1 := hv.2.1; have c2 := hv.2.2.1; have c3 := hv.2.2.2
  simp only [Nat.zero_add] at c1 c2 c3
  clear hnf hb0
  go_wp2
  go_region_held3 (fun w' => w'.cell? ⟨w.heap.size, 0, none⟩ = some (.int .i64 k) ∧ w'.cell? ⟨w.heap.size, 1, none⟩ = some (.int .i64 n) ∧ w'.cell? ⟨w.heap.size, 2, none⟩ = some (.string s) ∧ w'.cell? ⟨w.heap.size, 3, none⟩ = some (.int .i64 a)) 
    (first | exact ⟨c0, c1, c2, c3⟩ | exact (ValAt.below (w := w1.drew) ⟨c0, c1, c2, c3⟩ hb2))
    ((refine (hcall _ hB1.out.drew).mono ?_; rintro e w2 ⟨rfl, hb2⟩))
  clear hne hb hm hcall hf
  have hB2 : Hid (Below w.heap.size w w2) := grw hB1.out.drew hb2
  cases b
  · go_wp2
    go_ret2
    exact ⟨rfl, hB2.out⟩
  · go_wp2
    go_ret2
    exact ⟨rfl, hB2.out⟩

theorem of_no (k n : Int) (s : ByteArray) (a : Int) (x : Value) (ta : Option Addr) (m cp : Nat) (w : World)
    (hnf : ∀ w0, Below w.heap.size w w0 → Calls Tryz.prog 90 #[.agg #[.int .i64 k, .int .i64 n, .string s, .int .i64 a], .slice ta m cp] w0 fun e w' => e = .returned (.tuple #[x, .bool false]) ∧ Below w0.heap.size w0 w') :
    Calls Tryz.prog 51 #[.agg #[.int .i64 k, .int .i64 n, .string s, .int .i64 a], .slice ta m cp] w fun e w' => e = .returned (.tuple #[.nilIface, .bool false]) ∧ Below w.heap.size w w' := by
  have hb0 : Below w.heap.size w (w.alloc (Obj.cells #[.int .i64 k, .int .i64 n, .string s, .int .i64 a] 24)) := (Below.refl _ _).alloc (Nat.le_refl _) _
  go_enter Tryz.func51, Tryz.ntmps51
  go_wp2_with fail
  refine (hnf _ hb0).mono ?_
  rintro e w1 ⟨rfl, hb1⟩
  have hB1 : Hid (Below w.heap.size w w1) := grw hb0 hb1
  clear hnf hb0 hb1
  go_wp2
  go_quiet (fail)
  go_wp2
  go_ret2
  exact ⟨rfl, below_drewN hB1.out nq⟩

theorem meth_0 (w : World) (f : Nat) : (method (f + 3) 180 (.agg #[]) "loop.example/cloth/impl.asVal").run Tryz.prog w = .ok (213, .agg #[]) w := by kernel_rfl
theorem meth_1 (b : Bool) (w : World) (f : Nat) : (method (f + 3) 232 (.agg #[.bool b]) "loop.example/cloth/impl.asVal").run Tryz.prog w = .ok (225, .agg #[.bool b]) w := by kernel_rfl
theorem meth_2 (n : Int) (w : World) (f : Nat) : (method (f + 3) 234 (.agg #[.int .i64 n]) "loop.example/cloth/impl.asVal").run Tryz.prog w = .ok (226, .agg #[.int .i64 n]) w := by kernel_rfl
theorem meth_3 (s : ByteArray) (w : World) (f : Nat) : (method (f + 3) 236 (.agg #[.string s]) "loop.example/cloth/impl.asVal").run Tryz.prog w = .ok (227, .agg #[.string s]) w := by kernel_rfl
theorem meth_4 (b : Nat) (w : World) (f : Nat) : (method (f + 3) 107 (.pointer (some ⟨b, 0, none⟩)) "loop.example/cloth/impl.asVal").run Tryz.prog w = .ok (209, .pointer (some ⟨b, 0, none⟩)) w := by kernel_rfl

theorem of_any (v : V) (ta : Option Addr) (tb m cp : Nat) (T : Nat → Nat) (w : World) (H : Hid (Tabs w ta tb m T)) :
    Calls Tryz.prog 51 #[.agg #[.int .i64 v.k, .int .i64 v.n, .string v.s, .int .i64 v.a], .slice ta m cp] w fun e w' => e = .returned (.tuple #[if isV m v then ifv T v else .nilIface, .bool (isV m v)]) ∧ Below w.heap.size w w' := by
  obtain ⟨k, n, s, a⟩ := v
  simp only
  have eq0 : ∀ x : Int, ((0 : Int) == x) = (x == 0) := fun x => Bool.eq_iff_iff.2 (by simp only [beq_iff_eq]; exact eq_comm)
  have eqs : (([] : List UInt8) == s.toList) = (s.toList == []) := Bool.eq_iff_iff.2 (by simp only [beq_iff_eq]; exact eq_comm)
  have hes : (ByteArray.mk #[]).toList = [] := by rw [ByteArray.toList_eq]
  by_cases k0 : k = 0
  · subst k0
    refine (of_yes 0 n s a 0 0 ⟨#[]⟩ 0 _ _ _ ta m cp w (fun w0 _ => nf_0 n s a ta m cp w0) meth_0 Tryz.call213 (fun w0 _ => asNil_any w0) (isV m ⟨0, n, s, a⟩) ?_).mono ?_
    · rw [hes, eq0 n, eq0 a, eqs]; rfl
    · rintro e w' ⟨rfl, h⟩
      exact ⟨rfl, h⟩
  by_cases k1 : k = 1
  · subst k1
    refine (of_yes 1 n s a 1 (if (n == 1) then 1 else 0) ⟨#[]⟩ 0 _ _ _ ta m cp w (fun w0 _ => nf_1 n s a ta m cp w0) (meth_1 _) Tryz.call225 (fun w0 _ => asBool_any _ w0) (isV m ⟨1, n, s, a⟩) ?_).mono ?_
    · rw [hes, eq0 a, eqs]
      show (true && (((if (n == 1) = true then (1 : Int) else 0) == n) && _)) = ((n == 0 || n == 1) && _)
      by_cases h1 : n = 1
      · subst h1; rfl
      · have : (n == 1) = false := by simpa using h1
        rw [this, if_neg (by simp), eq0 n, Bool.or_false, Bool.true_and]
    · rintro e w' ⟨rfl, h⟩
      exact ⟨rfl, h⟩
  by_cases k2 : k = 2
  · subst k2
    refine (of_yes 2 n s a 2 n ⟨#[]⟩ 0 _ _ _ ta m cp w (fun w0 _ => nf_2 n s a ta m cp w0) (meth_2 _) Tryz.call226 (fun w0 _ => asInt_any _ w0) (isV m ⟨2, n, s, a⟩) ?_).mono ?_
    · rw [hes, eq0 a, eqs, beq_self_eq_true n]; rfl
    · rintro e w' ⟨rfl, h⟩
      exact ⟨rfl, h⟩
  by_cases k3 : k = 3
  · subst k3
    by_cases hs : (s.size : Int) ≤ 500
    · have hd : decide ((s.size : Int) ≤ 500) = true := by simpa using hs
      refine (of_yes 3 n s a 3 0 s 0 _ _ _ ta m cp w (fun w0 _ => hd ▸ nf_3 n s a ta m cp w0) (meth_3 _) Tryz.call227 (fun w0 _ => asText_any _ w0) (isV m ⟨3, n, s, a⟩) ?_).mono ?_
      · rw [eq0 a, eq0 n, beq_self_eq_true s.toList]
        have hd' : decide (s.size ≤ 500) = true := by simpa using (by omega : s.size ≤ 500)
        show (true && (n == 0 && (true && a == 0))) = (n == 0 && (a == 0 && decide (s.size ≤ 500)))
        rw [hd', Bool.and_true, Bool.true_and, Bool.true_and]
      · rintro e w' ⟨rfl, h⟩
        exact ⟨rfl, h⟩
    · have hd : decide ((s.size : Int) ≤ 500) = false := by simpa using hs
      have hno : isV m ⟨3, n, s, a⟩ = false := by
        have hd' : decide (s.size ≤ 500) = false := by simpa using (by omega : ¬ s.size ≤ 500)
        show (n == 0 && (a == 0 && decide (s.size ≤ 500))) = false
        rw [hd', Bool.and_false, Bool.and_false]
      rw [hno]
      exact of_no 3 n s a _ ta m cp w (fun w0 _ => hd ▸ nf_3 n s a ta m cp w0)
  by_cases k4 : k = 4
  · subst k4
    by_cases ha : 0 ≤ a ∧ a < m
    · refine (of_yes 4 n s a 4 0 ⟨#[]⟩ a _ _ _ ta m cp w (fun w0 hb => nf_4 n s a ta tb m cp T w0 ha.1 ha.2 (H.out.below hb)) (meth_4 _) Tryz.call209 (fun w0 hb => asTab_any _ a w0 ?_) (isV m ⟨4, n, s, a⟩) ?_).mono ?_
      · have := (H.out.below hb).at_ a.toNat (by omega)
        rw [this]; congr 2; omega
      · rw [hes, eq0 n, eqs, beq_self_eq_true a]
        have h1 : decide (0 ≤ a) = true := by simpa using ha.1
        have h2 : decide (a < m) = true := by simpa using ha.2
        show (true && (n == 0 && (s.toList == [] && true))) = (n == 0 && (s.toList == [] && (decide (0 ≤ a) && decide (a < m))))
        rw [h1, h2]; rfl
      · rintro e w' ⟨rfl, h⟩
        exact ⟨rfl, h⟩
    · have hno : isV m ⟨4, n, s, a⟩ = false := by
        have hd : (decide (0 ≤ a) && decide (a < m)) = false := by
          rw [← Bool.decide_and]; simpa using ha
        show (n == 0 && (s.toList == [] && (decide (0 ≤ a) && decide (a < m)))) = false
        rw [hd, Bool.and_false, Bool.and_false]
      rw [hno]
      exact of_no 4 n s a _ ta m cp w (fun w0 _ => nf_4no n s a ta m cp w0 ha)
  · have hno : isV m ⟨k, n, s, a⟩ = false := by simp [isV, k0, k1, k2, k3, k4]
    rw [hno]
    exact of_no k n s a _ ta m cp w (fun w0 _ => nf_no k n s a ta m cp w0 (by simpa using k0) (by simpa using k1) (by simpa using k2) (by simpa using k3) (by simpa using k4))

theorem isKey_of (k n : Int) (s : ByteArray) (a : Int) (w : World) (x : Value) (t : TypeId) (b b1 b2 b3 : Bool) (y1 y2 y3 : Value) (hb : (b1 || (b2 || b3)) = b)
    (h1 : ∀ w, (Instr.typeAssert (.iface t x) 54 232 true).run Tryz.prog w = .ok (.tuple #[y1, .bool b1]) w)
    (h2 : ∀ w, (Instr.typeAssert (.iface t x) 54 234 true).run Tryz.prog w = .ok (.tuple #[y2, .bool b2]) w)
    (h3 : ∀ w, (Instr.typeAssert (.iface t x) 54 236 true).run Tryz.prog w = .ok (.tuple #[y3, .bool b3]) w)
    (hof : ∀ w, Calls Tryz.prog 51 #[.agg #[.int .i64 k, .int .i64 n, .string s, .int .i64 a], .slice none 0 0] w fun e w' => e = .returned (.tuple #[.iface t x, .bool true]) ∧ Below w.heap.size w w') :
    Calls Tryz.prog 87 #[.agg #[.int .i64 k, .int .i64 n, .string s, .int .i64 a]] w fun e w' => e = .returned (.bool b) ∧ Below w.heap.size w w' := by
  have hb0 : Hid (Below w.heap.size w (w.alloc (Obj.cells #[.int .i64 k, .int .i64 n, .string s, .int .i64 a] 24))) := (Below.refl _ _).alloc (Nat.le_refl _) _
  subst hb
  go_enter Tryz.func87, Tryz.ntmps87
  go_wp2_with fail
  refine (hof _).mono ?_
  rintro e w1 ⟨rfl, hb1⟩
  have HB : Hid (Below w.heap.size w w1) := grw hb0.out hb1
  clear hb1 hof hb0
  cases b1 <;> cases b2 <;> cases b3
  all_goals
    go_wp2
    go_ret
    exact ⟨rfl, HB.out⟩

theorem isKey_any (v : V) (w : World) :
    Calls Tryz.prog 87 #[.agg #[.int .i64 v.k, .int .i64 v.n, .string v.s, .int .i64 v.a]] w fun e w' => e = .returned (.bool (isK v)) ∧ Below w.heap.size w w' := by
  obtain ⟨k, n, s, a⟩ := v
  simp only
  have hof := fun w => of_any ⟨k, n, s, a⟩ none 0 0 0 (fun _ => 0) w (Tabs.nil _)
  obtain ⟨b, hbv⟩ : ∃ b, isV 0 ⟨k, n, s, a⟩ = b := ⟨_, rfl⟩
  simp only [hbv] at hof
  cases b
  · have hno : isK ⟨k, n, s, a⟩ = false := by simp [isK, hbv]
    rw [hno]
    clear hbv hno
    have hb0 : Hid (Below w.heap.size w (w.alloc (Obj.cells #[.int .i64 k, .int .i64 n, .string s, .int .i64 a] 24))) := (Below.refl _ _).alloc (Nat.le_refl _) _
    go_enter Tryz.func87, Tryz.ntmps87
    go_wp2_with fail
    refine (hof _).mono ?_
    rintro e w1 ⟨rfl, hb1⟩
    go_wp2
    go_ret
    exact ⟨rfl, grw hb0.out hb1⟩
  · have hk : isK ⟨k, n, s, a⟩ = (k == 1 || k == 2 || k == 3) := by simp [isK, hbv]
    rw [hk]
    by_cases k0 : k = 0
    · subst k0
      exact isKey_of 0 n s a w _ _ _ false false false (.agg #[.bool false]) (.agg #[.int .i64 0]) (.agg #[.string ⟨#[]⟩]) rfl (fun _ => by kernel_rfl) (fun _ => by kernel_rfl) (fun _ => by kernel_rfl) hof
    by_cases k1 : k = 1
    · subst k1
      exact isKey_of 1 n s a w _ _ _ true false false (.agg #[.bool (n == 1)]) (.agg #[.int .i64 0]) (.agg #[.string ⟨#[]⟩]) rfl (fun _ => by kernel_rfl) (fun _ => by kernel_rfl) (fun _ => by kernel_rfl) hof
    by_cases k2 : k = 2
    · subst k2
      exact isKey_of 2 n s a w _ _ _ false true false (.agg #[.bool false]) (.agg #[.int .i64 n]) (.agg #[.string ⟨#[]⟩]) rfl (fun _ => by kernel_rfl) (fun _ => by kernel_rfl) (fun _ => by kernel_rfl) hof
    by_cases k3 : k = 3
    · subst k3
      exact isKey_of 3 n s a w _ _ _ false false true (.agg #[.bool false]) (.agg #[.int .i64 0]) (.agg #[.string s]) rfl (fun _ => by kernel_rfl) (fun _ => by kernel_rfl) (fun _ => by kernel_rfl) hof
    · exfalso
      by_cases k4 : k = 4
      · subst k4
        have : (n == 0 && (s.toList == [] && (decide (0 ≤ a) && decide (a < ((0 : Nat) : Int))))) = true := hbv
        simp at this
        omega
      · simp [isV, k0, k1, k2, k3, k4] at hbv

end Go.Proofs.YtgflalfiopnmnaaGreatDoor.Dr

namespace Go.Proofs.YtgflalfiopnmnaaGreatDoor
open Go.Shelf

end Go.Proofs.YtgflalfiopnmnaaGreatDoor

namespace Go.Proofs.YtgflalfiopnmnaaGreatDoor
open Go.RowKit Vl

theorem owns_set {w : World} {base t s n g cap : Nat} {xs : List Value} (h : w.ownsRow base t s (.slice (some ⟨g, 0, none⟩) n cap) n xs) (i : Nat) (y : Value) : (w.setCell ⟨g, i, none⟩ y).ownsRow base t s (.slice (some ⟨g, 0, none⟩) n cap) n (xs.set i y) := by
  refine ⟨by rw [List.length_set]; exact h.1, ?_⟩
  rcases h.2 with ⟨hv, _⟩ | ⟨g', cap', cur, hv, hge, hh, hl, hm, hs, ht⟩
  · cases hv
  · cases hv
    refine Or.inr ⟨g, cap, cur.setIfInBounds i y, rfl, hge, ?_, hl, hm, by simpa using hs, ?_⟩
    · simp [World.setCell, Array.getElem?_modify, hh]
    · rw [Array.toList_setIfInBounds, List.take_set, ht]

theorem pairCells_put {K X : Nat → V} {c j : Nat} (hj : j < c) (k x : V) :
    ((((((((pairCells K X c).set (j * 8) (.int .i64 k.k)).set (j * 8 + 1) (.int .i64 k.n)).set (j * 8 + 2) (.string k.s)).set (j * 8 + 3) (.int .i64 k.a)).set (j * 8 + 4) (.int .i64 x.k)).set (j * 8 + 5) (.int .i64 x.n)).set (j * 8 + 6) (.string x.s)).set (j * 8 + 7) (.int .i64 x.a)
      = pairCells (fun i => if i = j then k else K i) (fun i => if i = j then x else X i) c := by
  apply List.ext_getElem?
  intro m
  by_cases hm : m < c * 8
  · obtain ⟨q, i, hi, rfl⟩ : ∃ q i, i < 8 ∧ m = q * 8 + i := ⟨m / 8, m % 8, by omega, by omega⟩
    have hq : q < c := by omega
    rw [pairCells_at _ _ _ _ _ hq hi]
    simp only [List.getElem?_set, List.length_set, pairCells_len]
    by_cases e : q = j
    · subst e
      simp only [if_true]
      have hlt : ∀ d, d < 8 → q * 8 + d < c * 8 := fun d hd => by omega
      rcases (show i = 0 ∨ i = 1 ∨ i = 2 ∨ i = 3 ∨ i = 4 ∨ i = 5 ∨ i = 6 ∨ i = 7 by omega) with rfl | rfl | rfl | rfl | rfl | rfl | rfl | rfl <;> simp [hlt, show q * 8 < c * 8 by omega]
    · simp only [e, if_false]
      rw [if_neg (by omega), if_neg (by omega), if_neg (by omega), if_neg (by omega), if_neg (by omega), if_neg (by omega), if_neg (by omega), if_neg (by omega)]
      exact pairCells_at K X c q i hq hi
  · rw [List.getElem?_eq_none (by simp only [List.length_set, pairCells_len]; omega), List.getElem?_eq_none (by rw [pairCells_len]; omega)]

theorem owns_put {w : World} {base n g cap j : Nat} {K X : Nat → V} (h : w.ownsRow base 39 8 (.slice (some ⟨g, 0, none⟩) n cap) n (pairCells K X n)) (hj : j < n) (k x : V) :
    ((((((((w.setCell ⟨g, j * 8, none⟩ (.int .i64 k.k)).setCell ⟨g, j * 8 + 1, none⟩ (.int .i64 k.n)).setCell ⟨g, j * 8 + 2, none⟩ (.string k.s)).setCell ⟨g, j * 8 + 3, none⟩ (.int .i64 k.a)).setCell ⟨g, j * 8 + 4, none⟩ (.int .i64 x.k)).setCell ⟨g, j * 8 + 5, none⟩ (.int .i64 x.n)).setCell ⟨g, j * 8 + 6, none⟩ (.string x.s)).setCell ⟨g, j * 8 + 7, none⟩ (.int .i64 x.a)).ownsRow base 39 8 (.slice (some ⟨g, 0, none⟩) n cap) n (pairCells (fun i => if i = j then k else K i) (fun i => if i = j then x else X i) n) := by
  rw [← pairCells_put hj]
  exact owns_set (owns_set (owns_set (owns_set (owns_set (owns_set (owns_set (owns_set h _ _) _ _) _ _) _ _) _ _) _ _) _ _) _ _

abbrev byI (K : Nat → V) (ms : List Nat) (i : Nat) : V := K (ms.getD i 0)

theorem only8 {w : World} {g a0 a1 a2 a3 a4 a5 a6 a7 : Nat} {v0 v1 v2 v3 v4 v5 v6 v7 : Value} : Only (fun k => k = g) w ((((((((w.setCell ⟨g, a0, none⟩ v0).setCell ⟨g, a1, none⟩ v1).setCell ⟨g, a2, none⟩ v2).setCell ⟨g, a3, none⟩ v3).setCell ⟨g, a4, none⟩ v4).setCell ⟨g, a5, none⟩ v5).setCell ⟨g, a6, none⟩ v6).setCell ⟨g, a7, none⟩ v7) :=
  ((((((((Only.refl (fun k => k = g) w).set (p := ⟨g, a0, none⟩) rfl v0).set (p := ⟨g, a1, none⟩) rfl v1).set (p := ⟨g, a2, none⟩) rfl v2).set (p := ⟨g, a3, none⟩) rfl v3).set (p := ⟨g, a4, none⟩) rfl v4).set (p := ⟨g, a5, none⟩) rfl v5).set (p := ⟨g, a6, none⟩) rfl v6).set (p := ⟨g, a7, none⟩) rfl v7

end Go.Proofs.YtgflalfiopnmnaaGreatDoor

namespace Go.Proofs.YtgflalfiopnmnaaGreatDoor
open Go.RowKit Vl Go.Sort Go.Shelf

abbrev KV := { v : V // isK v = true }
instance : Inhabited KV := ⟨⟨⟨2, 0, ⟨#[]⟩, 0⟩, by decide +kernel⟩⟩
end Go.Proofs.YtgflalfiopnmnaaGreatDoor

namespace Go.Proofs.YtgflalfiopnmnaaGreatDoor
open Go.RowKit Vl Go.Sort Go.Shelf

end Go.Proofs.YtgflalfiopnmnaaGreatDoor

namespace Go.Proofs.YtgflalfiopnmnaaGreatDoor
open Go.RowKit Vl

def sh (N : Nat) (v : V) : V := if v.k = 4 then ⟨v.k, v.n, v.s, v.a + N⟩ else v
theorem sh_k (N : Nat) (v : V) : (sh N v).k = v.k := by unfold sh; split <;> rfl
theorem sh_isV {N n : Nat} {v : V} (h : isV n v = true) : isV (N + n) (sh N v) = true := by
  by_cases h4 : v.k = 4
  · unfold sh
    rw [if_pos h4]
    unfold isV at h ⊢
    rw [if_neg (by omega), if_neg (by omega), if_neg (by omega), if_neg (by omega), if_pos h4] at h
    rw [if_neg (by simp only; omega), if_neg (by simp only; omega), if_neg (by simp only; omega), if_neg (by simp only; omega), if_pos (by simp only; omega)]
    simp only [Bool.and_eq_true, decide_eq_true_eq] at h ⊢
    refine ⟨h.1, h.2.1, ?_, ?_⟩
    · have := h.2.2.1; omega
    · have := h.2.2.2; omega
  · unfold sh
    rw [if_neg h4]
    unfold isV at h ⊢
    rw [if_neg h4] at h ⊢
    exact h
theorem isV_more {N n : Nat} {v : V} (h : isV N v = true) : isV (N + n) v = true := by
  by_cases h4 : v.k = 4
  · unfold isV at h ⊢
    rw [if_neg (by omega), if_neg (by omega), if_neg (by omega), if_neg (by omega), if_pos h4] at h ⊢
    simp only [Bool.and_eq_true, decide_eq_true_eq] at h ⊢
    refine ⟨h.1, h.2.1, h.2.2.1, ?_⟩
    have := h.2.2.2; omega
  · unfold isV at h ⊢
    rw [if_neg h4] at h ⊢
    exact h
def jn {α : Type} (N : Nat) (f g : Nat → α) (j : Nat) : α := if j < N then f j else g (j - N)
theorem jn_lt {α : Type} {N : Nat} {f g : Nat → α} {j : Nat} (h : j < N) : jn N f g j = f j := by unfold jn; rw [if_pos h]
theorem jn_ge {α : Type} {N : Nat} {f g : Nat → α} {j : Nat} (h : ¬ j < N) : jn N f g j = g (j - N) := by unfold jn; rw [if_neg h]
theorem jn_add {α : Type} {N : Nat} {f g : Nat → α} (j : Nat) : jn N f g (N + j) = g j := by rw [jn_ge (by omega)]; congr 1; omega

end Go.Proofs.YtgflalfiopnmnaaGreatDoor

namespace Go.Proofs.YtgflalfiopnmnaaGreatDoor
open Go.RowKit Vl

structure Lk where
  was : Nat
  parts : Nat → Nat

def lkCells (l : Lk) : List Value := .int .i64 (l.was : Nat) :: (List.range 100).map fun i => .int .u16 (l.parts i : Nat)
end Go.Proofs.YtgflalfiopnmnaaGreatDoor

namespace Go.Proofs.YtgflalfiopnmnaaGreatDoor
open Go.RowKit Vl

instance instV : BEq V := ⟨eqV⟩
instance instLV : LawfulBEq V where
  eq_of_beq h := eqV_iff.1 h
  rfl := eqV_iff.2 rfl

abbrev PV2 := V × V
end Go.Proofs.YtgflalfiopnmnaaGreatDoor

namespace Go.Proofs.YtgflalfiopnmnaaGreatDoor
open Go.RowKit Vl

def ClsAt (w : World) (g n : Nat) (cl : Nat → Nat) : Prop := ∀ i, i < n → w.cell? ⟨g, i, none⟩ = some (.int .i64 (cl i : Nat))
theorem ClsAt.below {w w' : World} {g n : Nat} {cl : Nat → Nat} (h : ClsAt w g n cl) (hb : Below w.heap.size w w') : ClsAt w' g n cl := fun i hi => (hb.cell (p := ⟨g, i, none⟩) (World.block_lt_of_cell? _ _ (h i hi))).trans (h i hi)

end Go.Proofs.YtgflalfiopnmnaaGreatDoor

namespace Go.Proofs.YtgflalfiopnmnaaGreatDoor
open Go.RowKit Vl

def lkc (l : Lk) (i : Nat) : Value := if i = 0 then .int .i64 (l.was : Nat) else .int .u16 (l.parts (i - 1) : Nat)
theorem lkCells_map (l : Lk) : lkCells l = (List.range 101).map (lkc l) := by
  unfold lkCells
  rw [List.range_succ_eq_map]
  simp only [List.map_cons, List.map_map]
  rfl

def LkB (w : World) (b : Nat) (l : Lk) : Prop := w.heap[b]? = some (.cells (lkCells l).toArray 220 (0, 0))
theorem LkB.below {w w' : World} {b : Nat} {l : Lk} (h : LkB w b l) (hb : Below w.heap.size w w') : LkB w' b l := (hb.block b (blk_lt h)).trans h
theorem LkB.lt {w : World} {b : Nat} {l : Lk} (h : LkB w b l) : b < w.heap.size := blk_lt h
theorem LkB.cell {w : World} {b : Nat} {l : Lk} (h : LkB w b l) {i : Nat} (hi : i < 101) : w.cell? ⟨b, i, none⟩ = some (lkc l i) ∧ ∀ j, w.frozen? ⟨b, j, none⟩ = false := by
  unfold LkB at h
  refine ⟨?_, fun j => by simp [World.frozen?, h]⟩
  simp [World.cell?, h, lkCells_map, hi]
theorem LkB.set {w : World} {b : Nat} {l : Lk} (h : LkB w b l) (i v : Nat) (hi : i < 100) : LkB (w.setCell ⟨b, 1 + i, none⟩ (.int .u16 (v : Nat))) b ⟨l.was, fun j => if j = i then v else l.parts j⟩ := by
  unfold LkB at h ⊢
  simp only [World.setCell, Array.getElem?_modify, h, if_true, Option.map_some, Option.isSome_none, Bool.false_eq_true, if_false]
  congr 2
  apply Array.ext_getElem?
  intro j
  simp only [Array.getElem?_setIfInBounds, List.size_toArray, List.getElem?_toArray, lkCells_map, List.getElem?_map, List.length_map, List.length_range]
  by_cases hj : j < 101
  · rw [List.getElem?_range hj]
    by_cases e : 1 + i = j
    · subst e
      rw [if_pos rfl, if_pos (by omega)]
      simp [lkc]
    · rw [if_neg e]
      simp only [Option.map_some, lkc]
      by_cases e0 : j = 0
      · subst e0; simp
      · rw [if_neg e0, if_neg e0, if_neg (by omega)]
  · rw [List.getElem?_eq_none (by simp; omega)]
    rw [if_neg (by omega)]
    rfl

theorem LkB.range {w : World} {b : Nat} {l : Lk} (h : LkB w b l) : w.rangeAt b 0 (lkCells l) := fun j v hv => by
  unfold LkB at h
  rw [Nat.zero_add]
  simp [World.cell?, h]
  simpa using hv
theorem zero_look : Tryz.zeroCells220 = (lkCells ⟨0, fun _ => 0⟩).toArray := by kernel_rfl
theorem LkB.new (w : World) : LkB (w.alloc (.cells Tryz.zeroCells220 220)) w.heap.size ⟨0, fun _ => 0⟩ := by
  unfold LkB
  rw [zero_look]
  exact heap_alloc_new _ _

end Go.Proofs.YtgflalfiopnmnaaGreatDoor

namespace Go.Proofs.YtgflalfiopnmnaaGreatDoor
open Go.RowKit Vl

def zAt (v : V) : V := ⟨v.k, v.n, v.s, 0⟩
def prOf (K X : Nat → Nat → V) (r c : Nat) : PV2 := (K r c, zAt (X r c))
end Go.Proofs.YtgflalfiopnmnaaGreatDoor

namespace Go.Proofs.YtgflalfiopnmnaaGreatDoor
open Go.RowKit Vl

end Go.Proofs.YtgflalfiopnmnaaGreatDoor

namespace Go.Proofs.YtgflalfiopnmnaaGreatDoor
open Go.RowKit Vl

structure Cl1 (w : World) (p1 p2 : Nat) (ta : Option Addr) (tb n cp km : Nat) (T : Nat → Nat) : Prop where
  top : 0 < n → ta = some ⟨tb, 0, none⟩
  tv : w.heap[p1]? = some (.cells #[.slice ta n cp] 55 (0, 0))
  kv : w.heap[p2]? = some (.cells #[.map (some km)] 215 (0, 0))
  row : ∀ j, j < n → w.cell? ⟨tb, j, none⟩ = some (ptr (T j))
  n1 : p1 ≠ km
  n2 : p2 ≠ km
  n3 : 0 < n → tb ≠ km
theorem Cl1.only {w w' : World} {p1 p2 : Nat} {ta : Option Addr} {tb n cp km : Nat} {T : Nat → Nat} {P : Nat → Prop} (h : Cl1 w p1 p2 ta tb n cp km T) (ho : Only P w w') (hP : ∀ k, k < w.heap.size → k ≠ km → ¬ P k) : Cl1 w' p1 p2 ta tb n cp km T :=
  ⟨h.top, (ho.block _ (blk_lt h.tv) (hP _ (blk_lt h.tv) h.n1)).trans h.tv, (ho.block _ (blk_lt h.kv) (hP _ (blk_lt h.kv) h.n2)).trans h.kv, fun j hj => ho.cell (h.row j hj) (hP _ (World.block_lt_of_cell? _ _ (h.row j hj)) (h.n3 (by omega))), h.n1, h.n2, h.n3⟩

end Go.Proofs.YtgflalfiopnmnaaGreatDoor

namespace Go.Proofs.YtgflalfiopnmnaaGreatDoor
open Go.RowKit Vl

structure Cl2 (w : World) (p1 p2 cg lb n : Nat) (cl : Nat → Nat) (lv : Nat → Value) (lds : Nat → List Nat) : Prop where
  cv : w.heap[p1]? = some (.cells #[.slice (some ⟨cg, 0, none⟩) n n] 93 (0, 0))
  lvr : w.heap[p2]? = some (.cells #[.slice (some ⟨lb, 0, none⟩) n n] 223 (0, 0))
  cls : ClsAt w cg n cl
  row : ∀ j, j < n → w.cell? ⟨lb, j, none⟩ = some (lv j)
  own : ∀ j, j < n → w.ownsRow 0 3 1 (lv j) (lds j).length (natCells (lds j))
theorem Cl2.below {w w' : World} {p1 p2 cg lb n : Nat} {cl : Nat → Nat} {lv : Nat → Value} {lds : Nat → List Nat} (h : Cl2 w p1 p2 cg lb n cl lv lds) (hb : Below w.heap.size w w') : Cl2 w' p1 p2 cg lb n cl lv lds :=
  ⟨blkB h.cv hb, blkB h.lvr hb, h.cls.below hb, fun j hj => (hb.cell (p := ⟨lb, j, none⟩) (World.block_lt_of_cell? _ _ (h.row j hj))).trans (h.row j hj), fun j hj => (Only.below (P := fun _ => False) hb).owns (h.own j hj) (fun _ _ _ h => h)⟩

end Go.Proofs.YtgflalfiopnmnaaGreatDoor

namespace Go.Proofs.YtgflalfiopnmnaaGreatDoor
open Go.RowKit Vl

end Go.Proofs.YtgflalfiopnmnaaGreatDoor

namespace Go.Proofs.YtgflalfiopnmnaaGreatDoor
open Go.RowKit Vl

structure Face (L : Nat → Nat) (K X : Nat → Nat → V) (i j : Nat) : Prop where
  len : L i = L j
  all : ∀ c, c < L i → prOf K X i c = prOf K X j c
theorem Face.symm {L : Nat → Nat} {K X : Nat → Nat → V} {i j : Nat} (h : Face L K X i j) : Face L K X j i := ⟨h.len.symm, fun c hc => (h.all c (by rw [h.len]; exact hc)).symm⟩

end Go.Proofs.YtgflalfiopnmnaaGreatDoor

namespace Go.Proofs.YtgflalfiopnmnaaGreatDoor
open Go.RowKit Vl

structure SrtB (w wr : World) (pv : Value) : Prop where
  res : wr.heap[w.heap.size + 1]? = some (.cells #[.slice none 0 0] 37 (0, 0))
  out : wr.heap[w.heap.size + 2]? = some (.cells #[pv] 37 (0, 0))
  bel : Below w.heap.size w wr
theorem SrtB.below {w wr wr' : World} {pv : Value} (h : SrtB w wr pv) (hb : Below wr.heap.size wr wr') : SrtB w wr' pv := ⟨blkB h.res hb, blkB h.out hb, grw h.bel hb⟩
theorem SrtB.only {w wr wr' : World} {pv : Value} {P : Nat → Prop} (h : SrtB w wr pv) (ho : Only P wr wr') (hP : ∀ k, P k → w.heap.size + 3 ≤ k) : SrtB w wr' pv :=
  ⟨(ho.block _ (blk_lt h.res) (fun x => by have := hP _ x; omega)).trans h.res, (ho.block _ (blk_lt h.out) (fun x => by have := hP _ x; omega)).trans h.out, h.bel.trans (ho.toBelow (fun k x => by have := hP k x; omega) h.bel.size)⟩

theorem SrtB.grow {w wr wr' : World} {pv : Value} (h : SrtB w wr pv) (hb : Below (w.heap.size + 3) wr wr') : SrtB w wr' pv := ⟨(hb.block _ (by omega)).trans h.res, (hb.block _ (by omega)).trans h.out, h.bel.trans (hb.mono (by omega))⟩
end Go.Proofs.YtgflalfiopnmnaaGreatDoor

namespace Go.Proofs.YtgflalfiopnmnaaGreatDoor
open Go.RowKit Vl

def sK (K : Nat → Nat → V) (ls : Nat → List Nat) (i : Nat) : Nat → V := byI (K i) (ls i)

structure Found (L : Nat → Nat) (K X : Nat → Nat → V) (cl nx : Nat → Nat) (i k v : Nat) : Prop where
  how : (v = i ∧ ∀ q, k ≤ q → q < i → ¬ (cl q = cl i ∧ Looks L K X cl q i)) ∨ ∃ m, k ≤ m ∧ m < i ∧ (cl m = cl i ∧ Looks L K X cl m i) ∧ v = nx m ∧ ∀ q, k ≤ q → q < m → ¬ (cl q = cl i ∧ Looks L K X cl q i)

theorem Round.grow {i v : Nat} {L : Nat → Nat} {K X : Nat → Nat → V} {cl nx : Nat → Nat} (h : Round i L K X cl nx) (hf : Found L K X cl nx i 0 v) : Round (i + 1) L K X cl (fun j => if j = i then v else nx j) := by
  have key : v ≤ i ∧ (cl v = cl i ∧ Looks L K X cl v i) ∧ ∀ k, k < v → ¬ (cl k = cl i ∧ Looks L K X cl k i) := by
    rcases hf.how with ⟨rfl, h2⟩ | ⟨m, _, h2, h3, rfl, h5⟩
    · exact ⟨Nat.le_refl _, ⟨rfl, Looks.refl _ _ _ _ _⟩, fun k hk => h2 k (by omega) hk⟩
    · have := h.low m h2
      obtain ⟨a, b⟩ := h.hit m h2
      exact ⟨by omega, ⟨a.trans h3.1, b.trans h3.2⟩, fun k hk => h5 k (by omega) (by omega)⟩
  refine ⟨fun j hj => ?_, fun j hj => ?_, fun j hj k hk => ?_⟩
  · by_cases e : j = i
    · subst e; rw [if_pos rfl]; exact key.1
    · rw [if_neg e]; exact h.low j (by omega)
  · by_cases e : j = i
    · subst e; rw [if_pos rfl]; exact key.2.1
    · rw [if_neg e]; exact h.hit j (by omega)
  · by_cases e : j = i
    · subst e; rw [if_pos rfl] at hk; exact key.2.2 k hk
    · rw [if_neg e] at hk; exact h.least j (by omega) k hk

end Go.Proofs.YtgflalfiopnmnaaGreatDoor

namespace Go.Proofs.YtgflalfiopnmnaaGreatDoor
open Go.RowKit Vl

end Go.Proofs.YtgflalfiopnmnaaGreatDoor

namespace Go.Proofs.YtgflalfiopnmnaaGreatDoor
open Go.RowKit Vl

end Go.Proofs.YtgflalfiopnmnaaGreatDoor
