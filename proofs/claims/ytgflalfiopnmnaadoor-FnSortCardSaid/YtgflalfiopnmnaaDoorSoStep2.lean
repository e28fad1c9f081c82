import Derived.Test.YtgflalfiopnmnaaDoorSoStep
namespace Go.Proofs.YtgflalfiopnmnaaDoor
open Go.RowKit Rk So

/-- How a step of a pass ends. -/
def StEnd (w0 w' : World) (S base K R Pb Qb D Eb n : Nat) (hd : Value) (q : List (Nat × Nat)) (o : List Nat) (f e : Nat) (E : Value) (r : Option (List Nat)) (en : Ending) : Prop :=
  match r with
  | some m => en = .returned (.tuple #[]) ∧ SoS w0 w' S base K R Pb Qb D Eb n hd q (o.take f ++ m ++ o.drop e)
  | none => en = .panicked [{ v := .iface 66 (.agg #[E]), recovered := false }] ∧ SoS w0 w' S base K R Pb Qb D Eb n hd q o

theorem order_after {o m : List Nat} {f k e n : Nat} (hl : o.length = n) (hlt : ∀ z ∈ o, z < n) (hf : f ≤ k) (hk : k ≤ e) (he : e ≤ n) (hp : List.Perm m (seg o f k ++ seg o k e)) : (o.take f ++ m ++ o.drop e).length = n ∧ ∀ z ∈ o.take f ++ m ++ o.drop e, z < n := by
  have hm := hp.length_eq
  have h1 := seg_length (f := f) (show k ≤ o.length by omega)
  have h2 := seg_length (f := k) (show e ≤ o.length by omega)
  refine ⟨by simp [hm, h1, h2]; omega, fun z hz => ?_⟩
  simp only [List.mem_append] at hz
  rcases hz with (hz | hz) | hz
  · exact hlt z (List.mem_of_mem_take hz)
  · have := hp.mem_iff.1 hz
    simp only [List.mem_append, seg] at this
    rcases this with h | h
    · exact hlt z (List.mem_of_mem_drop (List.mem_of_mem_take h))
    · exact hlt z (List.mem_of_mem_drop (List.mem_of_mem_take h))
  · exact hlt z (List.mem_of_mem_drop hz)

theorem ints_row {o m : List Nat} {f e : Nat} (hm : m.length = e - f) (hf : f ≤ e) : ((ints o).toArray.toList.take f ++ ints m ++ (ints o).toArray.toList.drop (f + (ints m).length)).toArray = (ints (o.take f ++ m ++ o.drop e)).toArray := by
  have e1 : f + (ints m).length = e := by simp [ints, hm]; omega
  rw [e1]
  simp [ints]

theorem owns_cells {w : World} {b g k : Nat} {m : List Nat} (h : w.ownsRow b 3 1 (.slice (some ⟨g, 0, none⟩) k k) k (ints m)) : ∀ j v, (ints m)[j]? = some v → w.cell? ((⟨g, 0, none⟩ : Addr).add j) = some v := by
  intro j v hj
  rcases h.2 with ⟨e, _⟩ | ⟨g', cap, cur, e, _, hh, _, _, _, ht⟩
  · cases e
  · cases e
    rw [addr_plus, Nat.zero_add]
    have : (cur.toList.take (k * 1))[j]? = some v := by rw [ht]; exact hj
    rw [List.getElem?_take] at this
    split at this
    · simp [World.cell?, hh]
      simpa using this
    · cases this

set_option maxHeartbeats 4000000 in
/-- 'copy(row[from:to], merged(row[from:middle], row[middle:to], surely))'. -/
theorem step_any (w0 w : World) (S base K R Pb Qb D Eb : Nat) (ga : Option Addr) (gb go n cp : Nat) (A : Nat → Option Addr) (L C RB RO : Nat → Nat) (M : Nat → Nat → Int) (q : List (Nat × Nat)) (o : List Nat) (ea : Addr)
    (hga : 0 < n → ga = some ⟨gb, go, none⟩) (HS : Hid (Sq n L M)) (HM : Hid (MatR w0 gb go n A L C RB RO M)) (HE : Hid (w0.cell? ⟨0, 0, none⟩ = some (.iface 74 (.pointer (some ea)))))
    (HT : Hid (SoS w0 w S base K R Pb Qb D Eb n (.slice ga n cp) q o)) (hq : q.length ≤ 900000) (f m e : Nat) (hfm : f < m) (hme : m < e) (hen : e ≤ n) (mi ei : Int) (hmi : mi = (m : Nat)) (hei : ei = (e : Nat))
    (a : List (Nat × Nat)) (r : Option (List Nat)) (HG : Hid (mg M (seg o f m) (seg o m e) = (a, r))) :
    Calls Tryd.prog 44 #[.int .i64 f, .int .i64 mi, .int .i64 ei, .pointer (some ⟨Pb, 0, none⟩), .pointer (some ⟨Qb, 0, none⟩)] w fun en w' =>
      StEnd w0 w' S base K R Pb Qb D Eb n (.slice ga n cp) (q ++ a) o f e (.iface 74 (.pointer (some ea))) r en := by
  subst hmi hei
  have h200 : n ≤ 200 := HS.out.1
  obtain ⟨v, hv, _⟩ := HT.out.inv.st
  have hKS := ne_of_types HT.out.kb hv (by decide)
  have hRS := ne_of_types HT.out.row hv (by decide)
  clear hv
  have c1 : w.cell? ⟨Pb, 0, none⟩ = some (.slice (some ⟨R, 0, none⟩) n n) := cell_of_one HT.out.pb
  have c2 : w.cell? ⟨Qb, 0, none⟩ = some (.func (.func 43) #[] #[.pointer (some ⟨K, 0, none⟩)]) := cell_of_one HT.out.qb
  have k1 := run_cut R f e n (by omega) hen (by omega)
  have k2 := run_cut R f m n (by omega) (by omega) (by omega)
  have k3 := run_cut R m e n (by omega) hen (by omega)
  have hol := HT.out.len
  have hl1 := seg_length (o := o) (f := f) (e := m) (by omega)
  have hl2 := seg_length (o := o) (f := m) (e := e) (by omega)
  have hmg := merged_any w0 w.drew S base K R f ga gb go n cp A L C RB RO M q ea hga HS HM HE HT.out.inv.drew hq o (seg o f m) (seg o m e) (n - f) (n - m) (m - f) (e - m) hl1 hl2 (by omega) (by omega) (by omega) (by omega)
    HT.out.kb hKS (rowIs_ints HT.out.row hol) hRS ⟨hol, HT.out.lt⟩ (fun i x h => seg_get h) (fun j y h => by rw [show f + (m - f) + j = m + j by omega]; exact seg_get h) a r HG
  rw [show f + (m - f) = m by omega, show m - f + (e - m) = e - f by omega] at hmg
  have Hl : Hid ((seg o f m).length = m - f ∧ (seg o m e).length = e - m ∧ o.length = n) := ⟨hl1, hl2, hol⟩
  clear hl1 hl2 hol
  go_enter Tryd.func44, Tryd.ntmps44
  refine wp_region_held_drew (S := fun w' => w'.cell? ⟨Pb, 0, none⟩ = some (.slice (some ⟨R, 0, none⟩) n n) ∧ w'.cell? ⟨Qb, 0, none⟩ = some (.func (.func 43) #[] #[.pointer (some ⟨K, 0, none⟩)])) (by kernel_rfl) ⟨c1, c2⟩ (fun hHeld => ?_)
  refine wpAnyH_take (i := 0) (v := .slice (some ⟨R, 0, none⟩) n n) rfl (by kernel_rfl) (by kernel_rfl) (by kernel_rfl) (fun _ _ _ h => h) (Or.inl ⟨by rfl, fun w hSw => ?_⟩) hHeld ?_
  · first | rfl | (obtain ⟨s1, s2⟩ := hSw; go_simp)
  simp only [Act.put, List.setIfInBounds_toArray, List.set_cons_zero, List.set_cons_succ, List.getElem_toArray, List.getElem_cons_zero]
  refine wpAnyH_take (i := 1) (v := .int .i64 f) rfl (by kernel_rfl) (by kernel_rfl) (by kernel_rfl) (fun _ _ _ h => h) (Or.inl ⟨by rfl, fun w hSw => ?_⟩) hHeld ?_
  · first | rfl | (obtain ⟨s1, s2⟩ := hSw; go_simp)
  simp only [Act.put, List.setIfInBounds_toArray, List.set_cons_zero, List.set_cons_succ, List.getElem_toArray, List.getElem_cons_zero, List.getElem_cons_succ]
  refine wpAnyH_take (i := 2) (v := .int .i64 e) rfl (by kernel_rfl) (by kernel_rfl) (by kernel_rfl) (fun _ _ _ h => h) (Or.inl ⟨by rfl, fun w hSw => ?_⟩) hHeld ?_
  · first | rfl | (obtain ⟨s1, s2⟩ := hSw; go_simp)
  simp only [Act.put, List.setIfInBounds_toArray, List.set_cons_zero, List.set_cons_succ, List.getElem_toArray, List.getElem_cons_zero, List.getElem_cons_succ]
  refine wpAnyH_take (i := 3) (v := .slice (some ⟨R, f, none⟩) (e - f) (n - f)) rfl (by kernel_rfl) (by kernel_rfl) (by kernel_rfl) (fun _ _ _ h => h) (Or.inl ⟨by rfl, fun w hSw => ?_⟩) hHeld ?_
  · first | rfl | (obtain ⟨s1, s2⟩ := hSw; go_simp)
  simp only [Act.put, List.setIfInBounds_toArray, List.set_cons_zero, List.set_cons_succ, List.getElem_toArray, List.getElem_cons_zero, List.getElem_cons_succ]
  refine wpAnyH_take (i := 4) (v := .slice (some ⟨R, 0, none⟩) n n) rfl (by kernel_rfl) (by kernel_rfl) (by kernel_rfl) (fun _ _ _ h => h) (Or.inl ⟨by rfl, fun w hSw => ?_⟩) hHeld ?_
  · first | rfl | (obtain ⟨s1, s2⟩ := hSw; go_simp)
  simp only [Act.put, List.setIfInBounds_toArray, List.set_cons_zero, List.set_cons_succ, List.getElem_toArray, List.getElem_cons_zero, List.getElem_cons_succ]
  refine wpAnyH_take (i := 5) (v := .int .i64 f) rfl (by kernel_rfl) (by kernel_rfl) (by kernel_rfl) (fun _ _ _ h => h) (Or.inl ⟨by rfl, fun w hSw => ?_⟩) hHeld ?_
  · first | rfl | (obtain ⟨s1, s2⟩ := hSw; go_simp)
  simp only [Act.put, List.setIfInBounds_toArray, List.set_cons_zero, List.set_cons_succ, List.getElem_toArray, List.getElem_cons_zero, List.getElem_cons_succ]
  refine wpAnyH_take (i := 6) (v := .int .i64 m) rfl (by kernel_rfl) (by kernel_rfl) (by kernel_rfl) (fun _ _ _ h => h) (Or.inl ⟨by rfl, fun w hSw => ?_⟩) hHeld ?_
  · first | rfl | (obtain ⟨s1, s2⟩ := hSw; go_simp)
  simp only [Act.put, List.setIfInBounds_toArray, List.set_cons_zero, List.set_cons_succ, List.getElem_toArray, List.getElem_cons_zero, List.getElem_cons_succ]
  refine wpAnyH_take (i := 7) (v := .slice (some ⟨R, f, none⟩) (m - f) (n - f)) rfl (by kernel_rfl) (by kernel_rfl) (by kernel_rfl) (fun _ _ _ h => h) (Or.inl ⟨by rfl, fun w hSw => ?_⟩) hHeld ?_
  · first | rfl | (obtain ⟨s1, s2⟩ := hSw; go_simp)
  simp only [Act.put, List.setIfInBounds_toArray, List.set_cons_zero, List.set_cons_succ, List.getElem_toArray, List.getElem_cons_zero, List.getElem_cons_succ]
  refine wpAnyH_take (i := 8) (v := .slice (some ⟨R, 0, none⟩) n n) rfl (by kernel_rfl) (by kernel_rfl) (by kernel_rfl) (fun _ _ _ h => h) (Or.inl ⟨by rfl, fun w hSw => ?_⟩) hHeld ?_
  · first | rfl | (obtain ⟨s1, s2⟩ := hSw; go_simp)
  simp only [Act.put, List.setIfInBounds_toArray, List.set_cons_zero, List.set_cons_succ, List.getElem_toArray, List.getElem_cons_zero, List.getElem_cons_succ]
  refine wpAnyH_take (i := 9) (v := .int .i64 m) rfl (by kernel_rfl) (by kernel_rfl) (by kernel_rfl) (fun _ _ _ h => h) (Or.inl ⟨by rfl, fun w hSw => ?_⟩) hHeld ?_
  · first | rfl | (obtain ⟨s1, s2⟩ := hSw; go_simp)
  simp only [Act.put, List.setIfInBounds_toArray, List.set_cons_zero, List.set_cons_succ, List.getElem_toArray, List.getElem_cons_zero, List.getElem_cons_succ]
  refine wpAnyH_take (i := 10) (v := .int .i64 e) rfl (by kernel_rfl) (by kernel_rfl) (by kernel_rfl) (fun _ _ _ h => h) (Or.inl ⟨by rfl, fun w hSw => ?_⟩) hHeld ?_
  · first | rfl | (obtain ⟨s1, s2⟩ := hSw; go_simp)
  simp only [Act.put, List.setIfInBounds_toArray, List.set_cons_zero, List.set_cons_succ, List.getElem_toArray, List.getElem_cons_zero, List.getElem_cons_succ]
  refine wpAnyH_take (i := 11) (v := .slice (some ⟨R, m, none⟩) (e - m) (n - m)) rfl (by kernel_rfl) (by kernel_rfl) (by kernel_rfl) (fun _ _ _ h => h) (Or.inl ⟨by rfl, fun w hSw => ?_⟩) hHeld ?_
  · first | rfl | (obtain ⟨s1, s2⟩ := hSw; go_simp)
  simp only [Act.put, List.setIfInBounds_toArray, List.set_cons_zero, List.set_cons_succ, List.getElem_toArray, List.getElem_cons_zero, List.getElem_cons_succ]
  refine wpAnyH_take (i := 12) (v := .func (.func 43) #[] #[.pointer (some ⟨K, 0, none⟩)]) rfl (by kernel_rfl) (by kernel_rfl) (by kernel_rfl) (fun _ _ _ h => h) (Or.inl ⟨by rfl, fun w hSw => ?_⟩) hHeld ?_
  · first | rfl | (obtain ⟨s1, s2⟩ := hSw; go_simp)
  simp only [Act.put, List.setIfInBounds_toArray, List.set_cons_zero, List.set_cons_succ, List.getElem_toArray, List.getElem_cons_zero, List.getElem_cons_succ]
  refine wpAnyH_ready (rs := [13]) (by kernel_rfl) (by simp) ?_
  refine AllReadyH.cons rfl (fun K' hK' => ?_) AllReadyH.nil
  clear k1 k2 k3 c1 c2
  go_simp
  refine hmg.mono ?_
  rintro en w2 ⟨hend, hI2, hF2⟩
  have HT2 : SoS w0 w2 S base K R Pb Qb D Eb n (.slice ga n cp) (q ++ a) o := HT.out.fr ((Fr.refl S base w).drew.trans hF2) hI2
  cases r with
  | none =>
    have he : en = .panicked [{ v := .iface 66 (.agg #[.iface 74 (.pointer (some ea))]), recovered := false }] := hend
    subst he
    exact ⟨rfl, rfl, HT2⟩
  | some m' =>
    obtain ⟨he, hown⟩ := hend
    subst he
    have hml : m'.length = e - f := by
      have := mg_len HG.out
      rw [Hl.out.1, Hl.out.2.1] at this
      omega
    have hoa := order_after Hl.out.2.2 HT.out.lt (Nat.le_of_lt hfm) (Nat.le_of_lt hme) hen (mg_perm M _ _ HG.out)
    have HT3 := HT2.copy hoa.1 hoa.2 (ints_row (o := o) hml (by omega))
    refine hK'.out _ _ ⟨cell_of_one HT2.pb, cell_of_one HT2.qb⟩ (fun hHeld2 => ?_)
    refine wpAnyH_ready (rs := [14]) (by kernel_rfl) (by simp) ?_
    refine AllReadyH.cons rfl (fun K2 hK2 => ?_) AllReadyH.nil
    refine step_copy_row (by rfl) (.tmp 11) (.tmp 21) 25 25 (by rfl) 3 Tryd.underlying25 (by kernel_rfl) R f (e - f) (n - f) ⟨w.heap.size, 0, none⟩ (e - f) (e - f) (by rfl) (by rfl) (ints o).toArray 3 HT2.row (ints m') ?hn (owns_cells hown) ?hfit (ints_one _) ?_
    case hn => simp [ints, hml]
    case hfit => have := Hl.out.2.2; simp [ints, hml]; omega
    refine hK2.out _ _ ⟨cell_of_one HT3.pb, cell_of_one HT3.qb⟩ (fun hHeld3 => ?_)
    refine wpAnyH_done (by kernel_rfl) ?_ _
    go_end0
    exact ⟨rfl, HT3⟩

end Go.Proofs.YtgflalfiopnmnaaDoor
