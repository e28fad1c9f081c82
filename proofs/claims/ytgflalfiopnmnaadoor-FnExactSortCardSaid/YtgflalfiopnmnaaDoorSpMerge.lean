import Derived.Test.YtgflalfiopnmnaaDoorSpSt
namespace Go.Proofs.YtgflalfiopnmnaaDoor
open Go.RowKit Rk So

/-- Two pieces of one row. -/
structure Two (w : World) (R off off2 : Nat) (xs ys : List Nat) : Prop where
  ex : ∃ cur m, w.heap[R]? = some (.cells cur 3 m) ∧ (∀ (i x : Nat), xs[i]? = some x → cur[off + i]? = some (.int .i64 (x : Nat))) ∧ ∀ (j y : Nat), ys[j]? = some y → cur[off2 + j]? = some (.int .i64 (y : Nat))

theorem Two.fr {w w' : World} {S base R off off2 : Nat} {xs ys : List Nat} (h : Two w R off off2 xs ys) (hf : Fr S base w w') (hRS : R ≠ S) : Two w' R off off2 xs ys := by
  obtain ⟨cur, m, hb, h1, h2⟩ := h.ex
  exact ⟨cur, m, hf.keep hb hRS (by decide), h1, h2⟩
theorem Two.a {w : World} {R off off2 i x : Nat} {xs ys : List Nat} (h : Two w R off off2 xs ys) (hx : xs[i]? = some x) : w.cell? ⟨R, off + i, none⟩ = some (.int .i64 (x : Nat)) := by
  obtain ⟨cur, m, hb, h1, h2⟩ := h.ex
  simp [World.cell?, hb, h1 i x hx]
theorem Two.b {w : World} {R off off2 i x : Nat} {xs ys : List Nat} (h : Two w R off off2 xs ys) (hx : ys[i]? = some x) : w.cell? ⟨R, off2 + i, none⟩ = some (.int .i64 (x : Nat)) := by
  obtain ⟨cur, m, hb, h1, h2⟩ := h.ex
  simp [World.cell?, hb, h2 i x hx]

/-- How the model's merge ends. -/
def SmEnd (w w' : World) (k : Nat) (r : Option (List Nat)) (e : Ending) : Prop :=
  ∃ (v : Value) (m : List Nat), e = .returned v ∧ m.length = k ∧ (∀ m', r = some m' → m = m') ∧ w'.ownsRow w.heap.size 3 1 v k (ints m)

/-- Where the model's merge stands. -/
def MgSt (M : Nat → Nat → Int) (xs ys : List Nat) (i j : Nat) (p : List (Nat × Nat)) (z : List Nat) (a : List (Nat × Nat)) (r : Option (List Nat)) (b : Bool) : Prop :=
  z.length = i + j ∧ if b = true then a = p ∧ r = none else At M xs ys i j p z a r

def MgRel (w0 w : World) (S base : Nat) (hd : Value) (M : Nat → Nat → Int) (xs ys : List Nat) (q a : List (Nat × Nat)) (r : Option (List Nat)) (out si sj : Value) (wr : World) : Prop :=
  ∃ (i j : Nat) (p : List (Nat × Nat)) (z : List Nat) (b : Bool) (v : Value), i ≤ xs.length ∧ j ≤ ys.length ∧ si = .int .i64 i ∧ sj = .int .i64 j ∧ v = out ∧ Hid (MgSt M xs ys i j p z a r b) ∧ Hid (wr.ownsRow w.heap.size 3 1 v (i + j) (ints z)) ∧ Hid (SInv w0 wr S base hd (q ++ p) b) ∧ Hid (Fr S base w wr) ∧ p.length ≤ i + j

def CpRel (w0 w : World) (S base : Nat) (hd : Value) (zs T : List Nat) (q : List (Nat × Nat)) (b : Bool) (c : Nat) (out si : Value) (wr : World) : Prop :=
  ∃ (i : Nat) (z : List Nat) (v : Value), i ≤ zs.length ∧ si = .int .i64 i ∧ v = out ∧ Hid (z ++ zs.drop i = T) ∧ Hid (wr.ownsRow w.heap.size 3 1 v (i + c) (ints z)) ∧ Hid (SInv w0 wr S base hd q b) ∧ Hid (Fr S base w wr)

theorem cp_step {z zs T : List Nat} {i x : Nat} (h : z ++ zs.drop i = T) (hx : zs[i]? = some x) : (z ++ [x]) ++ zs.drop (i + 1) = T := by
  rw [← h, drop_get hx]; simp
theorem cp_end {z zs T : List Nat} {i : Nat} (h : z ++ zs.drop i = T) (hx : zs.length ≤ i) : z = T := by
  rw [← h, List.drop_eq_nil_of_le hx]; simp

set_option maxHeartbeats 4000000 in
/-- The model's 'merge'. -/
theorem spMerge_any (w0 w : World) (S base R off off2 : Nat) (ga : Option Addr) (gb go n cp : Nat) (A : Nat → Option Addr) (L C RB RO : Nat → Nat) (M : Nat → Nat → Int) (q : List (Nat × Nat))
    (hga : 0 < n → ga = some ⟨gb, go, none⟩) (HS : Hid (Sq n L M)) (HM : Hid (MatR w0 gb go n A L C RB RO M))
    (HI : Hid (SInv w0 w S base (.slice ga n cp) q false)) (hq : q.length ≤ 900000) (xs ys : List Nat) (sa sb : Option Addr) (ca cb la lb : Nat) (hla : xs.length = la) (hlb : ys.length = lb) (hla' : la ≤ 200) (hlb' : lb ≤ 200)
    (hsa : 0 < la → sa = some ⟨R, off, none⟩) (hsb : 0 < lb → sb = some ⟨R, off2, none⟩)
    (HR : Hid (Two w R off off2 xs ys)) (hRS : R ≠ S) (HO : Hid ((∀ z ∈ xs, z < n) ∧ ∀ z ∈ ys, z < n)) (a : List (Nat × Nat)) (r : Option (List Nat)) (HG : Hid (mg M xs ys = (a, r))) :
    Calls Tryd.prog 28 #[.pointer (some ⟨S, 0, none⟩), .slice sa la ca, .slice sb lb cb] w fun e w' =>
      SmEnd w w' (la + lb) r e ∧ SInv w0 w' S base (.slice ga n cp) (q ++ a) r.isNone ∧ Fr S base w w' := by
  obtain ⟨i0, hi, hz0, hz1, hz2⟩ := info_parts Tryd.info3
  have hSw : S < w.heap.size := HI.out.size
  go_enter Tryd.func28, Tryd.ntmps28
  go_wp2
  go_loopw [7, 8, 9] (fun out si sj wr => MgRel w0 w S base (.slice ga n cp) M xs ys q a r out si sj wr) (fun _ si sj _ => (la - (intOf si).toNat) + (lb - (intOf sj).toNat))
  case atStart => exact ⟨0, 0, [], [], false, .slice none 0 0, Nat.zero_le _, Nat.zero_le _, rfl, rfl, rfl, ⟨rfl, At.start HG.out⟩, World.ownsRow_nil _ _ _ _, (by show SInv w0 w S base _ (q ++ []) false; rw [List.append_nil]; exact HI.out), Fr.refl _ _ _, Nat.zero_le _⟩
  case round =>
    obtain ⟨i, j, p, z, b, out, hi', hj', rfl, rfl, rfl, HA, HO1, HIr, HFr, hp⟩ := hrel
    rw [hla] at hi'
    rw [hlb] at hj'
    have f1 := HIr.out.failCell
    have hws := HFr.out.size
    by_cases hgo : i < la ∧ j < lb ∧ b = false
    · obtain ⟨hil, hjl, rfl⟩ := hgo
      obtain rfl := hsa (by omega)
      obtain rfl := hsb (by omega)
      obtain ⟨x, hx⟩ : ∃ x, xs[i]? = some x := ⟨_, List.getElem?_eq_getElem (by omega)⟩
      obtain ⟨y, hy⟩ : ∃ y, ys[j]? = some y := ⟨_, List.getElem?_eq_getElem (by omega)⟩
      have hxn : x < n := HO.out.1 x (List.mem_of_getElem? hx)
      have hyn : y < n := HO.out.2 y (List.mem_of_getElem? hy)
      have Hx : Hid (xs[i]? = some x) := hx
      have Hy : Hid (ys[j]? = some y) := hy
      have c1 : wr.cell? ⟨R, off + i, none⟩ = some (.int .i64 x) := (HR.out.fr HFr.out hRS).a hx
      have c2 : wr.cell? ⟨R, off2 + j, none⟩ = some (.int .i64 y) := (HR.out.fr HFr.out hRS).b hy
      clear hx hy
      have HAt : Hid (z.length = i + j ∧ At M xs ys i j p z a r) := HA.out
      have hAsk := spAsk_any w0 wr.drew S base ga gb go n cp A L C RB RO M (q ++ p) y x hga HS HM HIr.out.drew hyn hxn (by simp; omega)
      obtain ⟨b1, hb1⟩ : ∃ b1, (M y x == 1) = b1 := ⟨_, rfl⟩
      obtain ⟨b2, hb2⟩ : ∃ b2, (M y x == 2) = b2 := ⟨_, rfl⟩
      rw [hb1, hb2] at hAsk
      cases b1
      · have HN : Hid (MgSt M xs ys (i + 1) j (p ++ [(y, x)]) (z ++ [x]) a r b2) := by
          refine ⟨by have := HAt.out.1; simp; omega, ?_⟩
          by_cases e2 : M y x = 2
          · have hb2' : b2 = true := by rw [← hb2, e2]; rfl
            rw [if_pos hb2']
            exact HAt.out.2.two Hx.out Hy.out e2
          · have hb2' : ¬ b2 = true := by rw [← hb2]; simpa using e2
            rw [if_neg hb2']
            exact HAt.out.2.zero Hx.out Hy.out e2 (by simpa using hb1)
        clear hb1 hb2
        go_wp2_with fail
        go_region_held3 (fun w' => w'.cell? ⟨R, off + i, none⟩ = some (.int .i64 x) ∧ w'.cell? ⟨R, off2 + j, none⟩ = some (.int .i64 y)) (first | go_keep | exact ⟨(HR.out.fr (HFr.out.drew.trans hF2) hRS).a Hx.out, (HR.out.fr (HFr.out.drew.trans hF2) hRS).b Hy.out⟩)
          ((go_at_call 46; refine hAsk.mono ?_; rintro e w2 ⟨rfl, hI2, hF2⟩))
        have HF2 : Hid (Fr S base w w2) := HFr.out.drew.trans hF2
        have HO2 : Hid (w2.ownsRow w.heap.size 3 1 out (i + j) (ints z)) := hF2.owns HO1.out.drew hSw
        have HI2 : Hid (SInv w0 w2 S base (.slice ga n cp) (q ++ (p ++ [(y, x)])) b2) := by rw [← List.append_assoc]; exact hI2
        have d2 : w2.cell? ⟨R, off + i, none⟩ = some (.int .i64 x) := (HR.out.fr HF2.out hRS).a Hx.out
        have hw2 := HF2.out.size
        clear hI2 hF2 c1 c2 hAsk
        go_wp2_with (at_builtin; refine wpList_append_lies _ (by rfl) (.tmp 46) (.tmp 51) 25 (by rfl) w.heap.size 3 i0 (.int .i64 0) 1 8 Tryd.underlying25 hi hz0 hz1 hz2 (by rfl) (by omega) out (i + j) (ints z) (by rfl) (HO2.out.alloc _) ⟨w2.heap.size, 0, none⟩ 1 1 [.int .i64 x] (by rfl) (by rfl) (World.news_of_block (heap_alloc_new w2 _)) (by intro u hu; simp at hu; subst hu; rfl) (by omega) (by unfold maxLen; omega) (by omega) (by simp; omega) (w2.heap.size + 1) (by simp) ?_; intro g cap w3 hown3 hgrow3 hat hlt)
        have HI3 : Hid (SInv w0 w3 S base (.slice ga n cp) (q ++ (p ++ [(y, x)])) b2) := (HI2.out.alloc _).grown (HO2.out.alloc _) hSw hgrow3
        have HF3 : Hid (Fr S base w w3) := (HF2.out.alloc _).grownNew (HO2.out.alloc _) (Nat.le_refl _) hgrow3
        have HO3 : Hid (w3.ownsRow w.heap.size 3 1 (.slice (some ⟨g, 0, none⟩) (i + j + 1) cap) (i + 1 + j) (ints (z ++ [x]))) := by rw [ints_snoc, show i + 1 + j = i + j + 1 by omega]; exact hown3
        clear hown3 hgrow3
        go_roundw
        case rel => exact ⟨i + 1, j, p ++ [(y, x)], z ++ [x], b2, _, by omega, by omega, by go_num, rfl, rfl, HN, HO3, HI3, HF3, by simp; omega⟩
        case measure => simp [intOf]; omega
      · have e1 : M y x = 1 := by simpa using hb1
        have hb2' : b2 = false := by rw [← hb2, e1]; rfl
        subst hb2'
        have HN : Hid (MgSt M xs ys i (j + 1) (p ++ [(y, x)]) (z ++ [y]) a r false) := ⟨by have := HAt.out.1; simp; omega, HAt.out.2.one Hx.out Hy.out e1⟩
        clear hb1 hb2 e1
        go_wp2_with fail
        go_region_held3 (fun w' => w'.cell? ⟨R, off + i, none⟩ = some (.int .i64 x) ∧ w'.cell? ⟨R, off2 + j, none⟩ = some (.int .i64 y)) (first | go_keep | exact ⟨(HR.out.fr (HFr.out.drew.trans hF2) hRS).a Hx.out, (HR.out.fr (HFr.out.drew.trans hF2) hRS).b Hy.out⟩)
          ((go_at_call 46; refine hAsk.mono ?_; rintro e w2 ⟨rfl, hI2, hF2⟩))
        have HF2 : Hid (Fr S base w w2) := HFr.out.drew.trans hF2
        have HO2 : Hid (w2.ownsRow w.heap.size 3 1 out (i + j) (ints z)) := hF2.owns HO1.out.drew hSw
        have HI2 : Hid (SInv w0 w2 S base (.slice ga n cp) (q ++ (p ++ [(y, x)])) false) := by rw [← List.append_assoc]; exact hI2
        have d2 : w2.cell? ⟨R, off2 + j, none⟩ = some (.int .i64 y) := (HR.out.fr HF2.out hRS).b Hy.out
        have hw2 := HF2.out.size
        clear hI2 hF2 c1 c2 hAsk
        go_wp2_with (at_builtin; refine wpList_append_lies _ (by rfl) (.tmp 37) (.tmp 42) 25 (by rfl) w.heap.size 3 i0 (.int .i64 0) 1 8 Tryd.underlying25 hi hz0 hz1 hz2 (by rfl) (by omega) out (i + j) (ints z) (by rfl) (HO2.out.alloc _) ⟨w2.heap.size, 0, none⟩ 1 1 [.int .i64 y] (by rfl) (by rfl) (World.news_of_block (heap_alloc_new w2 _)) (by intro u hu; simp at hu; subst hu; rfl) (by omega) (by unfold maxLen; omega) (by omega) (by simp; omega) (w2.heap.size + 1) (by simp) ?_; intro g cap w3 hown3 hgrow3 hat hlt)
        have HI3 : Hid (SInv w0 w3 S base (.slice ga n cp) (q ++ (p ++ [(y, x)])) false) := (HI2.out.alloc _).grown (HO2.out.alloc _) hSw hgrow3
        have HF3 : Hid (Fr S base w w3) := (HF2.out.alloc _).grownNew (HO2.out.alloc _) (Nat.le_refl _) hgrow3
        have HO3 : Hid (w3.ownsRow w.heap.size 3 1 (.slice (some ⟨g, 0, none⟩) (i + j + 1) cap) (i + (j + 1)) (ints (z ++ [y]))) := by rw [ints_snoc, show i + (j + 1) = i + j + 1 by omega]; exact hown3
        clear hown3 hgrow3
        go_roundw
        case rel => exact ⟨i, j + 1, p ++ [(y, x)], z ++ [y], false, _, by omega, by omega, rfl, by go_num, rfl, HN, HO3, HI3, HF3, by simp; omega⟩
        case measure => simp [intOf]; omega
    · have HX : Hid (a = p ∧ r.isNone = b ∧ ∀ m', r = some m' → z ++ xs.drop i ++ ys.drop j = m') := by
        obtain ⟨_, hs⟩ := HA.out
        cases b
        · have h2 : At M xs ys i j p z a r := hs
          obtain ⟨e1, e2⟩ := h2.done (by
            by_cases h1 : i < la
            · by_cases h3 : j < lb
              · exact absurd ⟨h1, h3, rfl⟩ hgo
              · omega
            · omega)
          exact ⟨e1, by rw [e2]; rfl, fun m' hm => by rw [e2] at hm; cases hm; rfl⟩
        · have h2 : a = p ∧ r = none := hs
          exact ⟨h2.1, by rw [h2.2]; rfl, fun m' hm => by rw [h2.2] at hm; cases hm⟩
      obtain ⟨T1, HT1⟩ : ∃ T1, Hid (z ++ xs.drop i = T1) := ⟨_, rfl⟩
      have hcases : (¬ i < la) ∨ (i < la ∧ ¬ j < lb) ∨ (i < la ∧ j < lb ∧ b = true) := by
        by_cases h1 : i < la
        · by_cases h3 : j < lb
          · cases b
            · exact absurd ⟨h1, h3, rfl⟩ hgo
            · exact Or.inr (Or.inr ⟨h1, h3, rfl⟩)
          · exact Or.inr (Or.inl ⟨h1, h3⟩)
        · exact Or.inl h1
      clear hgo
      have HC : Hid (z.length = i + j) := HA.out.1
      rcases hcases with h1 | ⟨h1, h3⟩ | ⟨h1, h3, hb⟩
      all_goals
        try rw [hb] at f1
        go_wp2
        clear f1
        go_loopw [7, 8] (fun out si wr => CpRel w0 w S base (.slice ga n cp) xs T1 (q ++ p) b j out si wr) (fun _ si _ => la - (intOf si).toNat)
        case atStart => exact ⟨i, z, out, by omega, rfl, rfl, HT1, HO1, HIr, HFr⟩
        case round =>
          clear HO1 HIr HFr HA HC
          obtain ⟨i2, z2, out2, hi2, rfl, rfl, HT2, HO2, HI2, HF2⟩ := hrel
          rw [hla] at hi2
          have hw2 := HF2.out.size
          by_cases hil : i2 < la
          · obtain rfl := hsa (by omega)
            obtain ⟨x, hx⟩ : ∃ x, xs[i2]? = some x := ⟨_, List.getElem?_eq_getElem (by omega)⟩
            have c1 : wr.cell? ⟨R, off + i2, none⟩ = some (.int .i64 x) := (HR.out.fr HF2.out hRS).a hx
            have HN : Hid _ := cp_step HT2.out hx
            clear hx
            go_wp2_with (at_builtin; refine wpList_append_lies _ (by rfl) (.tmp 61) (.tmp 66) 25 (by rfl) w.heap.size 3 i0 (.int .i64 0) 1 8 Tryd.underlying25 hi hz0 hz1 hz2 (by rfl) (by omega) out2 (i2 + j) (ints z2) (by rfl) (HO2.out.alloc _) ⟨wr.heap.size, 0, none⟩ 1 1 [.int .i64 x] (by rfl) (by rfl) (World.news_of_block (heap_alloc_new wr _)) (by intro u hu; simp at hu; subst hu; rfl) (by omega) (by unfold maxLen; omega) (by omega) (by simp; omega) (wr.heap.size + 1) (by simp) ?_; intro g cap w3 hown3 hgrow3 hat hlt)
            have HI3 : Hid (SInv w0 w3 S base (.slice ga n cp) (q ++ p) b) := (HI2.out.alloc _).grown (HO2.out.alloc _) hSw hgrow3
            have HF3 : Hid (Fr S base w w3) := (HF2.out.alloc _).grownNew (HO2.out.alloc _) (Nat.le_refl _) hgrow3
            have HO3 : Hid (w3.ownsRow w.heap.size 3 1 (.slice (some ⟨g, 0, none⟩) (i2 + j + 1) cap) (i2 + 1 + j) (ints (z2 ++ [x]))) := by rw [ints_snoc, show i2 + 1 + j = i2 + j + 1 by omega]; exact hown3
            clear hown3 hgrow3
            go_roundw
            case rel => exact ⟨i2 + 1, z2 ++ [x], _, by omega, by go_num, rfl, HN, HO3, HI3, HF3⟩
            case measure => simp [intOf]; omega
          · obtain rfl : i2 = la := by omega
            obtain ⟨T2, HT3⟩ : ∃ T2, Hid (T1 ++ ys.drop j = T2) := ⟨_, rfl⟩
            have HE1 : Hid (z2 = T1) := cp_end HT2.out (by omega)
            go_wp2
            go_loopw [7, 9] (fun out si wr => CpRel w0 w S base (.slice ga n cp) ys T2 (q ++ p) b i2 out si wr) (fun _ si _ => lb - (intOf si).toNat)
            case atStart => exact ⟨j, z2, out2, by omega, rfl, rfl, by rw [HE1.out]; exact HT3, by rw [Nat.add_comm]; exact HO2, HI2, HF2⟩
            case round =>
              clear HO2 HI2 HF2 HE1
              obtain ⟨j2, z3, out3, hj2, rfl, rfl, HT4, HO3, HI3, HF3⟩ := hrel
              rw [hlb] at hj2
              have hw3 := HF3.out.size
              by_cases hjl : j2 < lb
              · obtain rfl := hsb (by omega)
                obtain ⟨x, hx⟩ : ∃ x, ys[j2]? = some x := ⟨_, List.getElem?_eq_getElem (by omega)⟩
                have c1 : wr.cell? ⟨R, off2 + j2, none⟩ = some (.int .i64 x) := (HR.out.fr HF3.out hRS).b hx
                have HN : Hid _ := cp_step HT4.out hx
                clear hx
                go_wp2_with (at_builtin; refine wpList_append_lies _ (by rfl) (.tmp 74) (.tmp 79) 25 (by rfl) w.heap.size 3 i0 (.int .i64 0) 1 8 Tryd.underlying25 hi hz0 hz1 hz2 (by rfl) (by omega) out3 (j2 + i2) (ints z3) (by rfl) (HO3.out.alloc _) ⟨wr.heap.size, 0, none⟩ 1 1 [.int .i64 x] (by rfl) (by rfl) (World.news_of_block (heap_alloc_new wr _)) (by intro u hu; simp at hu; subst hu; rfl) (by omega) (by unfold maxLen; omega) (by omega) (by simp; omega) (wr.heap.size + 1) (by simp) ?_; intro g cap w3 hown3 hgrow3 hat hlt)
                have HI4 : Hid (SInv w0 w3 S base (.slice ga n cp) (q ++ p) b) := (HI3.out.alloc _).grown (HO3.out.alloc _) hSw hgrow3
                have HF4 : Hid (Fr S base w w3) := (HF3.out.alloc _).grownNew (HO3.out.alloc _) (Nat.le_refl _) hgrow3
                have HO4 : Hid (w3.ownsRow w.heap.size 3 1 (.slice (some ⟨g, 0, none⟩) (j2 + i2 + 1) cap) (j2 + 1 + i2) (ints (z3 ++ [x]))) := by rw [ints_snoc, show j2 + 1 + i2 = j2 + i2 + 1 by omega]; exact hown3
                clear hown3 hgrow3
                go_roundw
                case rel => exact ⟨j2 + 1, z3 ++ [x], _, by omega, by go_num, rfl, HN, HO4, HI4, HF4⟩
                case measure => simp [intOf]; omega
              · obtain rfl : j2 = lb := by omega
                have HE3 : Hid (z3 = T2) := cp_end HT4.out (by omega)
                go_wp2
                go_ret
                obtain ⟨e1, e2, e3⟩ := HX.out
                rw [HT1.out, HT3.out, ← HE3.out] at e3
                refine ⟨⟨out3, z3, rfl, ?_, fun m' hm => e3 m' hm, by rw [Nat.add_comm]; exact HO3.out⟩, by rw [e1, e2]; exact HI3.out, HF3.out⟩
                have := HO3.out.1
                simp [ints] at this
                omega

end Go.Proofs.YtgflalfiopnmnaaDoor
