import Derived.Test.YtgflalfiopnmnaaDoorSoMg
import Derived.Test.YtgflalfiopnmnaaDoorSo2
namespace Go.Proofs.YtgflalfiopnmnaaDoor
open Go.RowKit Rk So

/-- How a merge ends: a new row; or the panic with a type of its own. -/
def MgEnd (r : Option (List Nat)) (e : Ending) (w' : World) (G k : Nat) (E : Value) : Prop :=
  match r with
  | some m => e = .returned (.slice (some ⟨G, 0, none⟩) k k) ∧ w'.ownsRow G 3 1 (.slice (some ⟨G, 0, none⟩) k k) k (ints m)
  | none => e = .panicked [{ v := .iface 66 (.agg #[E]), recovered := false }]

theorem Fr.cellRow {S base : Nat} {w w' : World} (h : Fr S base w w') {R n : Nat} {o : List Nat} (hr : w.rowIs R 3 n (fun j => .int .i64 (o.getD j 0 : Nat))) (hR : R ≠ S) {k x : Nat} (hx : o[k]? = some x) (hn : o.length = n) : w'.cell? ⟨R, k, none⟩ = some (.int .i64 x) := by
  obtain ⟨hl, he⟩ := List.getElem?_eq_some_iff.1 hx
  rw [(h.row hr hR (by decide)).cell (by omega)]
  simp [List.getD, hx]

set_option maxHeartbeats 4000000 in
/-- 'merged'. -/
theorem merged_any (w0 w : World) (S base K R off : Nat) (ga : Option Addr) (gb go n cp : Nat) (A : Nat → Option Addr) (L C RB RO : Nat → Nat) (M : Nat → Nat → Int) (q : List (Nat × Nat)) (ea : Addr)
    (hga : 0 < n → ga = some ⟨gb, go, none⟩) (HS : Hid (Sq n L M)) (HM : Hid (MatR w0 gb go n A L C RB RO M)) (HE : Hid (w0.cell? ⟨0, 0, none⟩ = some (.iface 74 (.pointer (some ea)))))
    (HI : Hid (Inv w0 w S base (.slice ga n cp) q)) (hq : q.length ≤ 900000) (o xs ys : List Nat) (ca cb la lb : Nat) (hla : xs.length = la) (hlb : ys.length = lb) (hla' : la ≤ 200) (hlb' : lb ≤ 200) (hca : la ≤ ca) (hcb : lb ≤ cb)
    (HK : Hid (w.heap[K]? = some (.cells #[.func (.func 26) #[.pointer (some ⟨S, 0, none⟩)] #[]] 47 (0, 0)))) (hKS : K ≠ S) (HR : Hid (w.rowIs R 3 n (fun j => .int .i64 (o.getD j 0 : Nat)))) (hRS : R ≠ S) (HO : Hid (o.length = n ∧ ∀ z ∈ o, z < n))
    (HX : Hid (∀ i x, xs[i]? = some x → o[off + i]? = some x)) (HY : Hid (∀ j y, ys[j]? = some y → o[off + la + j]? = some y)) (a : List (Nat × Nat)) (r : Option (List Nat)) (HG : Hid (mg M xs ys = (a, r))) :
    Calls Tryd.prog 45 #[.slice (some ⟨R, off, none⟩) la ca, .slice (some ⟨R, off + la, none⟩) lb cb, .func (.func 43) #[] #[.pointer (some ⟨K, 0, none⟩)]] w fun e w' =>
      MgEnd r e w' w.heap.size (la + lb) (.iface 74 (.pointer (some ea))) ∧ Inv w0 w' S base (.slice ga n cp) (q ++ a) ∧ Fr S base w w' := by
  obtain ⟨i0, hi, hz0, hz1, hz2⟩ := info_parts Tryd.info3
  have hSw : S < w.heap.size := by obtain ⟨v, hv, _⟩ := HI.out.st; exact lt_of_block hv
  have hsz := HI.out.sz
  go_enter Tryd.func45, Tryd.ntmps45
  go_wp2_with (at_make; refine wpList_make_own _ rfl _ _ 25 rfl w.heap.size 3 i0 (.int .i64 0) 1 Tryd.underlying25 hi hz0 hz1 _ _ _ (la + lb) rfl rfl (by omega) ?b2 ?b3 (Nat.le_refl _) ?_)
  case b2 => rw [hz2]; omega
  case b3 => unfold maxLen; omega
  intro w1 hown1 hgrow1
  have HF1 : Hid (Fr S base w w1) := Fr.made hgrow1
  have HI1 : Hid (Inv w0 w1 S base (.slice ga n cp) q) := HI.out.made hgrow1
  clear hgrow1
  go_wp2
  go_loopw [0, 1, 7] (fun s0 s1 out wr => ∃ (i j : Nat) (fa sa : Addr) (p : List (Nat × Nat)) (z : List Nat), i ≤ la ∧ j ≤ lb ∧ s0 = .slice (some fa) (la - i) (ca - i) ∧ s1 = .slice (some sa) (lb - j) (cb - j) ∧ (i < ca → fa = ⟨R, off + i, none⟩) ∧ (j < cb → sa = ⟨R, off + la + j, none⟩) ∧ out = .slice (some ⟨w.heap.size, 0, none⟩) (i + j) (la + lb) ∧
      Hid (At M xs ys i j p z a r) ∧ Hid (wr.ownsRow w.heap.size 3 1 (.slice (some ⟨w.heap.size, 0, none⟩) (i + j) (la + lb)) (i + j) (ints z)) ∧ Hid (Inv w0 wr S base (.slice ga n cp) (q ++ p)) ∧ Hid (Fr S base w wr) ∧ p.length ≤ i + j) (fun s0 s1 _ _ => lenOf s0 + lenOf s1)
  case atStart => exact ⟨0, 0, ⟨R, off, none⟩, ⟨R, off + la, none⟩, [], [], Nat.zero_le _, Nat.zero_le _, rfl, rfl, fun _ => rfl, fun _ => rfl, rfl, At.start HG.out, hown1, (by show Inv w0 w1 S base _ (q ++ []); rw [List.append_nil]; exact HI1.out), HF1, Nat.zero_le _⟩
  case round =>
    obtain ⟨i, j, fa, sa, p, z, hi', hj', rfl, rfl, hfa, hsa, rfl, HA, HO1, HIr, HFr, hp⟩ := hrel
    by_cases hil : i < la
    · by_cases hjl : j < lb
      · obtain rfl := hfa (by omega)
        obtain rfl := hsa (by omega)
        obtain ⟨x, hx⟩ : ∃ x, xs[i]? = some x := ⟨_, List.getElem?_eq_getElem (by omega)⟩
        obtain ⟨y, hy⟩ : ∃ y, ys[j]? = some y := ⟨_, List.getElem?_eq_getElem (by omega)⟩
        have c1 : wr.cell? ⟨R, off + i, none⟩ = some (.int .i64 x) := HFr.out.cellRow HR.out hRS (HX.out i x hx) HO.out.1
        have c2 : wr.cell? ⟨R, off + la + j, none⟩ = some (.int .i64 y) := HFr.out.cellRow HR.out hRS (HY.out j y hy) HO.out.1
        have hxn : x < n := HO.out.2 x (List.mem_of_getElem? (HX.out i x hx))
        have hyn : y < n := HO.out.2 y (List.mem_of_getElem? (HY.out j y hy))
        have Hx : Hid (xs[i]? = some x) := hx
        have Hy : Hid (ys[j]? = some y) := hy
        clear hx hy
        have i1 : (0 : Int) < ((la - i : Nat) : Int) := by omega
        have i2 : (0 : Int) < ((lb - j : Nat) : Int) := by omega
        have hKc : wr.cell? ⟨K, 0, none⟩ = some (.func (.func 26) #[.pointer (some ⟨S, 0, none⟩)] #[]) := cell_of_one (HFr.out.keep HK.out hKS (by decide))
        by_cases e2 : M y x = 2
        · obtain ⟨ea1, er⟩ := HA.out.two Hx.out Hy.out e2
          have hNo := sure_no w0 wr.drew S base K ga gb go n cp A L C RB RO M (q ++ p) y x ea hga HS HM HE HIr.out.drew hyn hxn (by simp; omega) hKc e2
          subst ea1 er
          clear e2
          go_wp2_with fail
          refine wp_region_held_drew (S := fun w' => w'.cell? ⟨R, off + i, none⟩ = some (.int .i64 x) ∧ w'.cell? ⟨R, off + la + j, none⟩ = some (.int .i64 y)) (by kernel_rfl) ⟨c1, c2⟩ (fun hHeld => ?_)
          refine wpAnyH_take (i := 0) (v := .func (.func 43) #[] #[.pointer (some ⟨K, 0, none⟩)]) rfl (by kernel_rfl) (by kernel_rfl) (by kernel_rfl) (fun _ _ _ h => h) (Or.inl ⟨by rfl, fun w hSw => ?_⟩) hHeld ?_
          · first | rfl | (obtain ⟨s1, s2⟩ := hSw; go_simp)
          simp only [Act.put, List.setIfInBounds_toArray, List.set_cons_zero, List.set_cons_succ, List.getElem_toArray, List.getElem_cons_zero]
          refine wpAnyH_take (i := 1) (v := .slice (some ⟨R, off + la + j, none⟩) (lb - j) (cb - j)) rfl (by kernel_rfl) (by kernel_rfl) (by kernel_rfl) (fun _ _ _ h => h) (Or.inl ⟨by rfl, fun w hSw => ?_⟩) hHeld ?_
          · first | rfl | (obtain ⟨s1, s2⟩ := hSw; go_simp)
          simp only [Act.put, List.setIfInBounds_toArray, List.set_cons_zero, List.set_cons_succ, List.getElem_toArray, List.getElem_cons_zero, List.getElem_cons_succ]
          refine wpAnyH_take (i := 2) (v := .pointer (some ⟨R, off + la + j, none⟩)) rfl (by kernel_rfl) (by kernel_rfl) (by kernel_rfl) (fun _ _ _ h => h) (Or.inl ⟨by rfl, fun w hSw => ?_⟩) hHeld ?_
          · first | rfl | (obtain ⟨s1, s2⟩ := hSw; go_simp)
          simp only [Act.put, List.setIfInBounds_toArray, List.set_cons_zero, List.set_cons_succ, List.getElem_toArray, List.getElem_cons_zero, List.getElem_cons_succ]
          refine wpAnyH_take (i := 3) (v := .int .i64 y) rfl (by kernel_rfl) (by kernel_rfl) (by kernel_rfl) (fun _ _ _ h => h) (Or.inl ⟨by rfl, fun w hSw => ?_⟩) hHeld ?_
          · first | rfl | (obtain ⟨s1, s2⟩ := hSw; go_simp)
          simp only [Act.put, List.setIfInBounds_toArray, List.set_cons_zero, List.set_cons_succ, List.getElem_toArray, List.getElem_cons_zero, List.getElem_cons_succ]
          refine wpAnyH_take (i := 4) (v := .slice (some ⟨R, off + i, none⟩) (la - i) (ca - i)) rfl (by kernel_rfl) (by kernel_rfl) (by kernel_rfl) (fun _ _ _ h => h) (Or.inl ⟨by rfl, fun w hSw => ?_⟩) hHeld ?_
          · first | rfl | (obtain ⟨s1, s2⟩ := hSw; go_simp)
          simp only [Act.put, List.setIfInBounds_toArray, List.set_cons_zero, List.set_cons_succ, List.getElem_toArray, List.getElem_cons_zero, List.getElem_cons_succ]
          refine wpAnyH_take (i := 5) (v := .pointer (some ⟨R, off + i, none⟩)) rfl (by kernel_rfl) (by kernel_rfl) (by kernel_rfl) (fun _ _ _ h => h) (Or.inl ⟨by rfl, fun w hSw => ?_⟩) hHeld ?_
          · first | rfl | (obtain ⟨s1, s2⟩ := hSw; go_simp)
          simp only [Act.put, List.setIfInBounds_toArray, List.set_cons_zero, List.set_cons_succ, List.getElem_toArray, List.getElem_cons_zero, List.getElem_cons_succ]
          refine wpAnyH_take (i := 6) (v := .int .i64 x) rfl (by kernel_rfl) (by kernel_rfl) (by kernel_rfl) (fun _ _ _ h => h) (Or.inl ⟨by rfl, fun w hSw => ?_⟩) hHeld ?_
          · first | rfl | (obtain ⟨s1, s2⟩ := hSw; go_simp)
          simp only [Act.put, List.setIfInBounds_toArray, List.set_cons_zero, List.set_cons_succ, List.getElem_toArray, List.getElem_cons_zero, List.getElem_cons_succ]
          refine wpAnyH_ready (rs := [7]) (by kernel_rfl) (by simp) ?_
          refine AllReadyH.cons rfl (fun K' hK' => ?_) AllReadyH.nil
          go_simp
          refine hNo.mono ?_
          rintro e w2 ⟨rfl, hI2, hF2⟩
          exact ⟨rfl, rfl, by rw [← List.append_assoc]; exact hI2, HFr.out.drew.trans hF2⟩
        · have HYes := fun wx hc hIx => sure_yes w0 wx S base K ga gb go n cp A L C RB RO M (q ++ p) y x ea hga HS HM HE hIx hyn hxn (by simp; omega) hc e2
          by_cases e1 : M y x = 1
          · have eb : (M y x == 1) = true := by simpa using e1
            rw [eb] at HYes
            have HN : Hid (At M xs ys i (j + 1) (p ++ [(y, x)]) (z ++ [y]) a r) := HA.out.one Hx.out Hy.out e1
            clear e1 e2 eb
            go_wp2_with fail
            go_region_held3 (fun w' => w'.cell? ⟨R, off + i, none⟩ = some (.int .i64 x) ∧ w'.cell? ⟨R, off + la + j, none⟩ = some (.int .i64 y)) (first | go_keep | exact ⟨(HFr.out.drew.trans hF2).cellRow HR.out hRS (HX.out i x Hx.out) HO.out.1, (HFr.out.drew.trans hF2).cellRow HR.out hRS (HY.out j y Hy.out) HO.out.1⟩)
              ((go_at_call 43; refine (HYes wr.drew hKc HIr.out.drew).mono ?_; rintro e w2 ⟨rfl, hI2, hF2⟩))
            have HF2 : Hid (Fr S base w w2) := HFr.out.drew.trans hF2
            have HO2 : Hid (w2.ownsRow w.heap.size 3 1 (.slice (some ⟨w.heap.size, 0, none⟩) (i + j) (la + lb)) (i + j) (ints z)) := hF2.owns HO1.out.drew hSw
            have HI2 : Hid (Inv w0 w2 S base (.slice ga n cp) (q ++ (p ++ [(y, x)]))) := by rw [← List.append_assoc]; exact hI2
            have d2 : w2.cell? ⟨R, off + la + j, none⟩ = some (.int .i64 y) := HF2.out.cellRow HR.out hRS (HY.out j y Hy.out) HO.out.1
            clear hI2 hF2 c1 c2 hKc
            go_wp2_with (at_builtin; refine wpList_append_fits _ (by rfl) (.tmp 30) (.tmp 34) 25 (by rfl) w.heap.size 3 i0 1 Tryd.underlying25 hi hz1 w.heap.size (i + j) (la + lb) (ints z) (by rfl) (HO2.out.alloc _) ⟨w2.heap.size, 0, none⟩ 1 1 [.int .i64 y] (by rfl) (by rfl) (World.news_of_block (heap_alloc_new w2 _)) (by intro u hu; simp at hu; subst hu; rfl) (by omega) ?_; intro w3 hown3 hgrow3)
            have HI3 : Hid (Inv w0 w3 S base (.slice ga n cp) (q ++ (p ++ [(y, x)]))) := (HI2.out.alloc _).grownOwn (HO2.out.alloc _) hSw hgrow3
            have HF3 : Hid (Fr S base w w3) := (HF2.out.alloc _).grownOwn hgrow3 (Nat.le_refl _)
            have HO3 : Hid (w3.ownsRow w.heap.size 3 1 (.slice (some ⟨w.heap.size, 0, none⟩) (i + j + 1) (la + lb)) (i + j + 1) (ints (z ++ [y]))) := by rw [ints_snoc]; exact hown3
            clear hown3 hgrow3
            go_roundw
            case rel =>
              go_light
              exact ⟨i, j + 1, _, (if cb - j = 1 then ⟨R, off + la + j, none⟩ else ⟨R, off + la + j + 1, none⟩), p ++ [(y, x)], z ++ [y], hi', by omega, rfl, slice_next _ _ _ _ _ _, fun _ => rfl, fun h => by rw [if_neg (by omega)]; rfl, rfl, HN, HO3, HI3, HF3, by simp; omega⟩
            case measure => go_light; simp [lenOf]; omega
          · have eb : (M y x == 1) = false := by simpa using e1
            rw [eb] at HYes
            have HN : Hid (At M xs ys (i + 1) j (p ++ [(y, x)]) (z ++ [x]) a r) := HA.out.zero Hx.out Hy.out e2 e1
            clear e1 e2 eb
            go_wp2_with fail
            go_region_held3 (fun w' => w'.cell? ⟨R, off + i, none⟩ = some (.int .i64 x) ∧ w'.cell? ⟨R, off + la + j, none⟩ = some (.int .i64 y)) (first | go_keep | exact ⟨(HFr.out.drew.trans hF2).cellRow HR.out hRS (HX.out i x Hx.out) HO.out.1, (HFr.out.drew.trans hF2).cellRow HR.out hRS (HY.out j y Hy.out) HO.out.1⟩)
              ((go_at_call 43; refine (HYes wr.drew hKc HIr.out.drew).mono ?_; rintro e w2 ⟨rfl, hI2, hF2⟩))
            have HF2 : Hid (Fr S base w w2) := HFr.out.drew.trans hF2
            have HO2 : Hid (w2.ownsRow w.heap.size 3 1 (.slice (some ⟨w.heap.size, 0, none⟩) (i + j) (la + lb)) (i + j) (ints z)) := hF2.owns HO1.out.drew hSw
            have HI2 : Hid (Inv w0 w2 S base (.slice ga n cp) (q ++ (p ++ [(y, x)]))) := by rw [← List.append_assoc]; exact hI2
            have d2 : w2.cell? ⟨R, off + i, none⟩ = some (.int .i64 x) := HF2.out.cellRow HR.out hRS (HX.out i x Hx.out) HO.out.1
            clear hI2 hF2 c1 c2 hKc
            go_wp2_with (at_builtin; refine wpList_append_fits _ (by rfl) (.tmp 38) (.tmp 42) 25 (by rfl) w.heap.size 3 i0 1 Tryd.underlying25 hi hz1 w.heap.size (i + j) (la + lb) (ints z) (by rfl) (HO2.out.alloc _) ⟨w2.heap.size, 0, none⟩ 1 1 [.int .i64 x] (by rfl) (by rfl) (World.news_of_block (heap_alloc_new w2 _)) (by intro u hu; simp at hu; subst hu; rfl) (by omega) ?_; intro w3 hown3 hgrow3)
            have HI3 : Hid (Inv w0 w3 S base (.slice ga n cp) (q ++ (p ++ [(y, x)]))) := (HI2.out.alloc _).grownOwn (HO2.out.alloc _) hSw hgrow3
            have HF3 : Hid (Fr S base w w3) := (HF2.out.alloc _).grownOwn hgrow3 (Nat.le_refl _)
            have HO3 : Hid (w3.ownsRow w.heap.size 3 1 (.slice (some ⟨w.heap.size, 0, none⟩) (i + j + 1) (la + lb)) (i + j + 1) (ints (z ++ [x]))) := by rw [ints_snoc]; exact hown3
            clear hown3 hgrow3
            go_roundw
            case rel =>
              go_light
              exact ⟨i + 1, j, (if ca - i = 1 then ⟨R, off + i, none⟩ else ⟨R, off + i + 1, none⟩), _, p ++ [(y, x)], z ++ [x], by omega, hj', slice_next _ _ _ _ _ _, rfl, fun h => by rw [if_neg (by omega)]; rfl, fun _ => rfl, by rw [show i + 1 + j = i + j + 1 by omega], HN, by rw [show i + 1 + j = i + j + 1 by omega]; exact HO3, HI3, HF3, by simp; omega⟩
            case measure => go_light; simp [lenOf]; omega
      · have hjl' : lb ≤ j := by omega
        have HD : Hid (a = p ∧ r = some (z ++ xs.drop i ++ ys.drop j)) := HA.out.done (by omega)
        have CA : Hid _ := tail_cells (w := wr) (f1 := fa) (i := i) (fun t x h => HFr.out.cellRow HR.out hRS (HX.out t x h) HO.out.1) (by intro h; exact hfa (by omega))
        go_wp2_with (first
          | (at_builtin; refine wpList_append_fits_any _ (by rfl) (.tmp 46) (.tmp 47) 25 (by rfl) w.heap.size 3 i0 1 Tryd.underlying25 hi hz1 w.heap.size (i + j) (la + lb) (ints z) (by rfl) HO1.out (some fa) (la - i) (ca - i) (ints (xs.drop i)) (by rfl) (by simp [ints, hla]) (by intro h; cases h) CA.out (ints_one _) (by omega) ?_; intro w3 hown3 hgrow3)
          | (at_builtin; refine wpList_append_fits_any _ (by rfl) (.tmp 49) (.tmp 50) 25 (by rfl) w.heap.size 3 i0 1 Tryd.underlying25 hi hz1 w.heap.size (i + j + (la - i)) (la + lb) (ints z ++ (ints (xs.drop i))) (by rfl) hown3 (some sa) 0 (cb - j) ([] : List Value) (by rfl) (by rfl) (by intro h; cases h) (by intro ad _ j' u hu; simp at hu) (by intro u hu; simp at hu) (by omega) ?_; intro w4 hown4 hgrow4))
        have HI3 : Hid (Inv w0 w3 S base (.slice ga n cp) (q ++ p)) := HIr.out.grownOwn HO1.out hSw hgrow3
        have HF3 : Hid (Fr S base w w3) := HFr.out.grownOwn hgrow3 (Nat.le_refl _)
        have HO3 : Hid (w3.ownsRow w.heap.size 3 1 (.slice (some ⟨w.heap.size, 0, none⟩) (i + j + (la - i)) (la + lb)) (i + j + (la - i)) (ints z ++ (ints (xs.drop i)))) := hown3
        go_ret
        obtain ⟨ea1, er⟩ := HD.out
        have hk : i + j + (la - i) + 0 = la + lb := by omega
        rw [hk] at hown4
        have er' : ys.drop j = [] := List.drop_eq_nil_of_le (by omega)
        rw [er', List.append_nil] at er
        refine ⟨?_, by rw [ea1]; exact HI3.out.grownOwn HO3.out hSw hgrow4, HF3.out.grownOwn hgrow4 (Nat.le_refl _)⟩
        rw [er]
        refine ⟨?_, ?_⟩
        · show Ending.returned (Value.slice _ (i + j + (la - i) + 0) _) = _
          rw [hk]
        · rw [ints_app]; simpa using hown4
    · have hil' : la ≤ i := by omega
      have HD : Hid (a = p ∧ r = some (z ++ xs.drop i ++ ys.drop j)) := HA.out.done (by omega)
      have CA : Hid _ := tail_cells (w := wr) (f1 := fa) (i := i) (fun t x h => HFr.out.cellRow HR.out hRS (HX.out t x h) HO.out.1) (by intro h; exact hfa (by omega))
      go_wp2_with (first
        | (at_builtin; refine wpList_append_fits_any _ (by rfl) (.tmp 46) (.tmp 47) 25 (by rfl) w.heap.size 3 i0 1 Tryd.underlying25 hi hz1 w.heap.size (i + j) (la + lb) (ints z) (by rfl) HO1.out (some fa) (la - i) (ca - i) (ints (xs.drop i)) (by rfl) (by simp [ints, hla]) (by intro h; cases h) CA.out (ints_one _) (by omega) ?_; intro w3 hown3 hgrow3; rw [show i + j + (la - i) = i + j from by omega] at hown3)
        | (at_builtin; refine wpList_append_fits_any _ (by rfl) (.tmp 49) (.tmp 50) 25 (by rfl) w.heap.size 3 i0 1 Tryd.underlying25 hi hz1 w.heap.size (i + j) (la + lb) (ints z ++ ints (xs.drop i)) (by rfl) hown3 (some sa) (lb - j) (cb - j) (ints (ys.drop j)) (by rfl) (by simp [ints, hlb]) (by intro h; cases h) (tail_cells (w := w3) (f1 := sa) (i := j) (fun t x h => (HFr.out.grownOwn hgrow3 (Nat.le_refl _)).cellRow HR.out hRS (HY.out t x h) HO.out.1) (by intro h; exact hsa (by omega))) (ints_one _) (by omega) ?_; intro w4 hown4 hgrow4))
      have HI3 : Hid (Inv w0 w3 S base (.slice ga n cp) (q ++ p)) := HIr.out.grownOwn HO1.out hSw hgrow3
      have HF3 : Hid (Fr S base w w3) := HFr.out.grownOwn hgrow3 (Nat.le_refl _)
      have HO3 : Hid (w3.ownsRow w.heap.size 3 1 (.slice (some ⟨w.heap.size, 0, none⟩) (i + j) (la + lb)) (i + j) (ints z ++ ints (xs.drop i))) := hown3
      go_ret
      obtain ⟨ea1, er⟩ := HD.out
      have hk : i + j + (lb - j) = la + lb := by omega
      rw [hk] at hown4
      refine ⟨?_, by rw [ea1]; exact HI3.out.grownOwn HO3.out hSw hgrow4, HF3.out.grownOwn hgrow4 (Nat.le_refl _)⟩
      rw [er]
      refine ⟨?_, ?_⟩
      · show Ending.returned (Value.slice _ (i + j + (lb - j)) _) = _
        rw [hk]
      · rw [ints_app, ints_app]; exact hown4

end Go.Proofs.YtgflalfiopnmnaaDoor
