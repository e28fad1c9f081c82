import Derived.Test.YtgflalfiopnmnaaGreatDoorM0
import Derived.Test.YtgflalfiopnmnaaGreatDoorM19
import Derived.ArgAppend
namespace Go.Proofs.YtgflalfiopnmnaaGreatDoor
open Go.RowKit Vl Aw

theorem Tbs.isB {w : World} {n : Nat} {T M : Nat → Nat} {at_ : Nat → Int} {L : Nat → Nat} {K X : Nat → Nat → V} (h : Tbs w n T M at_ L K X) : ∀ j, j < n → ∃ cs t, w.heap[T j]? = some (.cells cs t (0, 0)) := fun j hj => by
  obtain ⟨ord, a1, _⟩ := h.tab j hj
  unfold TabB at a1
  exact ⟨_, _, a1⟩
theorem filt_succ (all : List V) (P : V → Bool) (c : Nat) (h : c < all.length) : (all.take (c + 1)).filter P = if P (lsF all c) = true then (all.take c).filter P ++ [lsF all c] else (all.take c).filter P := by
  have e : all[c]? = some (lsF all c) := by
    unfold lsF
    rw [List.getD_eq_getElem?_getD, List.getElem?_eq_getElem h]
    rfl
  rw [List.take_add_one, e, List.filter_append]
  by_cases hp : P (lsF all c) = true
  · simp [hp]
  · simp [hp]

set_option maxHeartbeats 4000000 in
set_option maxRecDepth 100000 in
theorem parting_any (n i j : Nat) (T M : Nat → Nat) (at_ : Nat → Int) (L : Nat → Nat) (K X : Nat → Nat → V) (w : World) (hi : i < n) (hj : j < n) (HOT : Hid (∀ r, r < n → OkT n (L r) (K r) (X r))) (HT : Hid (Tbs w n T M at_ L K X)) (P : V → Bool) (HPd : Hid (P = (fun k => !((atKey (L i) (K i) (X i) k).k == 4 && (atKey (L j) (K j) (X j) k).k == 4) && !(alike T (atKey (L i) (K i) (X i) k) (atKey (L j) (K j) (X j) k))))) :
    Calls Tryz.prog 39 #[.agg #[ptr (T i), ptr (T j)]] w fun e w' => (((keys (K i) (L i) ++ keys (K j) (L j)).filter P = [] ∧ e = .returned (.tuple #[vAgg zeroV, .bool false])) ∨ (∃ k, e = .returned (.tuple #[vAgg k, .bool true]) ∧ k ∈ (keys (K i) (L i) ++ keys (K j) (L j)).filter P ∧ ∀ x ∈ (keys (K i) (L i) ++ keys (K j) (L j)).filter P, less x k = false)) ∧ Below w.heap.size w w' := by
  have A2 := alloc2 w (.cells #[ptr (T i), ptr (T j)] 109) (.cells #[.int .i64 0, .int .i64 0, .string ⟨#[]⟩, .int .i64 0] 24)
  obtain ⟨w1, hw1⟩ : ∃ w1, w1 = (w.alloc (.cells #[ptr (T i), ptr (T j)] 109)).alloc (.cells #[.int .i64 0, .int .i64 0, .string ⟨#[]⟩, .int .i64 0] 24) := ⟨_, rfl⟩
  rw [← hw1] at A2
  have HB1 : Hid (Below w.heap.size w w1) := A2.2.2.2
  have HC1 : Hid (w1.heap[w.heap.size]? = some (.cells #[ptr (T i), ptr (T j)] 109 (0, 0))) := A2.1
  have HR1 : Hid (ValB w1 (w.heap.size + 1) zeroV) := A2.2.1
  have HS1 : Hid (w1.heap.size = w.heap.size + 2) := A2.2.2.1
  clear A2
  have HT1 : Hid (Tbs w1 n T M at_ L K X) := HT.out.below HB1.out
  obtain ⟨oi, ti1, ti2⟩ := HT1.out.tab i hi
  obtain ⟨oj, tj1, tj2⟩ := HT1.out.tab j hj
  obtain ⟨ia, ic, hoi, _⟩ := owns_form ti2
  obtain ⟨ja, jc, hoj, _⟩ := owns_form tj2
  have hli := (HOT.out i hi).len
  have hlj := (HOT.out j hj).len
  have TI2 : Hid (w1.ownsRow 0 24 4 (.slice ia (L i) ic) (L i) (keyCells (keys (K i) (L i)))) := by rw [← hoi]; exact ti2
  have TJ2 : Hid (w1.ownsRow 0 24 4 (.slice ja (L j) jc) (L j) (keyCells (keys (K j) (L j)))) := by rw [← hoj]; exact tj2
  have ci := ti1.cells.2.2.1
  have cj := tj1.cells.2.2.1
  rw [hoi] at ci
  rw [hoj] at cj
  obtain ⟨c0, c1, _⟩ := two_at HC1.out
  have CI : Hid (∀ w', Below w1.heap.size w1 w' → w'.cell? ⟨T i, 2, none⟩ = some (.slice ia (L i) ic)) := cellB ci
  have CJ : Hid (∀ w', Below w1.heap.size w1 w' → w'.cell? ⟨T j, 2, none⟩ = some (.slice ja (L j) jc)) := cellB cj
  have C0 : Hid (∀ w', Below w1.heap.size w1 w' → w'.cell? ⟨w.heap.size, 0, none⟩ = some (ptr (T i))) := cellB c0
  have C1 : Hid (∀ w', Below w1.heap.size w1 w' → w'.cell? ⟨w.heap.size, 1, none⟩ = some (ptr (T j))) := cellB c1
  clear ci cj c0 c1 hoi hoj ti1 ti2 tj1 tj2
  obtain ⟨li, HLI⟩ : ∃ l, Hid (L i = l) := ⟨_, rfl⟩
  obtain ⟨lj, HLJ⟩ : ∃ l, Hid (L j = l) := ⟨_, rfl⟩
  obtain ⟨all, HAL⟩ : ∃ all, Hid (keys (K i) (L i) ++ keys (K j) (L j) = all) := ⟨_, rfl⟩
  have HALK : Hid (∀ k ∈ all, isK k = true) := show ∀ k ∈ all, _ from fun k hk => by
    rw [← HAL.out] at hk
    rcases List.mem_append.1 hk with hk | hk
    · obtain ⟨c, hc, rfl⟩ := Aw.mem_keys.1 hk; exact ((HOT.out i hi).all c hc).key
    · obtain ⟨c, hc, rfl⟩ := Aw.mem_keys.1 hk; exact ((HOT.out j hj).all c hc).key
  have HALL : Hid (all.length ≤ 200) := by
    show _ ≤ _
    rw [← HAL.out, List.length_append, keys_len, keys_len]
    omega
  rw [HAL.out]
  rw [HLI.out] at CI TI2 hli
  rw [HLJ.out] at CJ TJ2 hlj
  obtain ⟨iv, hiv, hz0, hz1, hz2⟩ := info_parts infoV
  go_enter Tryz.func39, Tryz.ntmps39
  go_wp2
  rw [← hw1]
  clear hw1
  refine wp_region_held_drew (S := fun y => Below w1.heap.size w1 y) (by kernel_rfl) (Below.refl _ _).drew (fun hHeld => ?_)
  generalize w1.drew = wd at hHeld ⊢
  refine wpT (i := 0) (v := .pointer (some ⟨w.heap.size, 0, none⟩)) rfl (fun w hSw => ?_) hHeld ?_
  · first | rfl | go_simp
  simp only [Act.put, pz]
  refine wpT (i := 1) (v := ptr (T i)) rfl (fun w hSw => ?_) hHeld ?_
  · have q0 := C0.out w hSw; first | rfl | go_simp
  simp only [Act.put, pz]
  refine wpT (i := 2) (v := ptr (T i)) rfl (fun w hSw => ?_) hHeld ?_
  · first | rfl | go_simp
  simp only [Act.put, pz]
  refine wpT (i := 3) (v := .pointer (some ⟨T i, 2, none⟩)) rfl (fun w hSw => ?_) hHeld ?_
  · first | rfl | go_simp
  simp only [Act.put, pz]
  refine wpT (i := 4) (v := .slice ia li ic) rfl (fun w hSw => ?_) hHeld ?_
  · have q0 := CI.out w hSw; first | rfl | go_simp
  simp only [Act.put, pz]
  refine wpT (i := 5) (v := .pointer (some ⟨w.heap.size, 1, none⟩)) rfl (fun w hSw => ?_) hHeld ?_
  · first | rfl | go_simp
  simp only [Act.put, pz]
  refine wpT (i := 6) (v := ptr (T j)) rfl (fun w hSw => ?_) hHeld ?_
  · have q0 := C1.out w hSw; first | rfl | go_simp
  simp only [Act.put, pz]
  refine wpT (i := 7) (v := ptr (T j)) rfl (fun w hSw => ?_) hHeld ?_
  · first | rfl | go_simp
  simp only [Act.put, pz]
  refine wpT (i := 8) (v := .pointer (some ⟨T j, 2, none⟩)) rfl (fun w hSw => ?_) hHeld ?_
  · first | rfl | go_simp
  simp only [Act.put, pz]
  refine wpT (i := 9) (v := .slice ja lj jc) rfl (fun w hSw => ?_) hHeld ?_
  · have q0 := CJ.out w hSw; first | rfl | go_simp
  simp only [Act.put, pz]
  refine wpT (i := 13) (v := .int .i64 0) rfl (fun w hSw => ?_) hHeld ?_
  · first | rfl | go_simp
  simp only [Act.put, pz]
  refine wpAnyH_ready (rs := [10]) (by kernel_rfl) (by simp) ?_
  refine AllReadyH.cons rfl (fun KK hK' => ?_) AllReadyH.nil
  go_simp
  obtain ⟨w2, hw2⟩ : ∃ w2, w2 = wd.alloc (.cells #[.slice ia li ic, .slice ja lj jc] 42) := ⟨_, rfl⟩
  have hb2 : Below wd.heap.size wd w2 := by rw [hw2]; exact (Below.refl _ _).alloc (Nat.le_refl _) _
  obtain ⟨gb, hgb⟩ : ∃ gb, wd.heap.size = gb := ⟨_, rfl⟩
  have HG2 : Hid (w2.heap[gb]? = some (.cells #[.slice ia li ic, .slice ja lj jc] 42 (0, 0))) := by rw [hw2, ← hgb]; exact heap_alloc_new _ _
  have hs2 : Below w1.heap.size w1 w2 := grw hHeld hb2
  rw [← hw2]
  try rw [hgb]
  clear hw2 hgb
  refine hK'.out _ _ hs2 (fun hHeld => ?_)
  clear hK'
  refine wpAnyH_ready (rs := [11]) (by kernel_rfl) (by simp) ?_
  refine AllReadyH.cons rfl (fun KK hK' => ?_) AllReadyH.nil
  have hcall := concat_any 2 gb (two (.slice ia li ic) (.slice ja lj jc)) (two li lj) (two (K i) (K j)) w2 (Nat.le_refl _) (show ∀ q, _ from fun q hq => by
      rcases (show q = 0 ∨ q = 1 by omega) with rfl | rfl
      · exact hli
      · exact hlj) (show ∀ q, _ from fun q hq => by
      obtain ⟨q0, q1, _⟩ := two_at HG2.out
      rcases (show q = 0 ∨ q = 1 by omega) with rfl | rfl
      · exact q0
      · exact q1) (show ∀ q, _ from fun q hq => by
      rcases (show q = 0 ∨ q = 1 by omega) with rfl | rfl
      · exact (Only.below (P := fun _ => False) hs2).owns TI2.out (fun _ _ _ h => h)
      · exact (Only.below (P := fun _ => False) hs2).owns TJ2.out (fun _ _ _ h => h))
  have hcat : cat (two li lj) (two (K i) (K j)) 2 = all := by
    rw [← HAL.out, HLI.out, HLJ.out]
    show ([] ++ keys (K i) li) ++ keys (K j) lj = _
    rw [List.nil_append]
  rw [hcat] at hcall
  go_simp
  refine hcall.mono ?_
  clear hcall hcat
  rintro e w3 ⟨⟨av, rfl, hown3⟩, hb3⟩
  have hs3 : Below w1.heap.size w1 w3 := grw hHeld hb3
  obtain ⟨al, HALn⟩ : ∃ al, Hid (all.length = al) := ⟨_, rfl⟩
  rw [HALn.out] at hown3
  obtain ⟨aa, ac, rfl, _⟩ := owns_form hown3
  obtain ⟨aa2, ac2, aB, ea, hva⟩ := owns_rowV HALn.out hown3
  rw [HALn.out] at ea hva
  cases ea
  have HVA : Hid (ValsAt w3 aa al aB 0 (lsF all)) := hva
  have HB3 : Hid (Below w.heap.size w w3) := grw HB1.out hs3
  have HT3 : Hid (Tbs w3 n T M at_ L K X) := HT1.out.below hs3
  have HC3 : Hid (w3.heap[w.heap.size]? = some (.cells #[ptr (T i), ptr (T j)] 109 (0, 0))) := blkB HC1.out hs3
  have HR3 : Hid (ValB w3 (w.heap.size + 1) zeroV) := HR1.out.below hs3
  have HS3 : Hid (w.heap.size + 2 ≤ w3.heap.size) := show _ ≤ _ by have := hs3.size; have := HS1.out; omega
  refine hK'.out _ _ hs3 (fun hHeld => ?_)
  clear hK' hb3 hown3 hva hb2
  refine wpT (i := 12) (v := .int .i64 (al : Nat)) rfl (fun w hSw => ?_) hHeld ?_
  · first | rfl | go_simp
  simp only [Act.put, pz]
  refine wpAnyH_done (by kernel_rfl) ?_ _
  have hal : al ≤ 200 := by rw [← HALn.out]; exact HALL.out
  clear hHeld hs3 hs2 HG2 CI CJ C0 C1 TI2 TJ2 HT1 HC1 HR1
  go_wp2
  obtain ⟨b3, HB3e⟩ : ∃ b, Hid (w3.heap.size = b) := ⟨_, rfl⟩
  go_loopw [4, 20] (fun kv ii wr => ∃ c : Nat, c ≤ al ∧ ii = .int .i64 c ∧ Hid (wr.ownsRow w3.heap.size 24 4 kv ((all.take c).filter P).length (keyCells ((all.take c).filter P))) ∧ Hid (Below w3.heap.size w3 wr)) (fun _ ii _ => al - (intOf ii).toNat)
  case atStart => exact ⟨0, Nat.zero_le _, rfl, World.ownsRow_nil _ _ _ _, Below.refl _ _⟩
  case round =>
    obtain ⟨c, hc, rfl, HO, HB⟩ := hrel
    obtain ⟨oa, oc, rfl, _⟩ := owns_form HO.out
    obtain ⟨ml, HML⟩ : ∃ ml, Hid (((all.take c).filter P).length = ml) := ⟨_, rfl⟩
    have hml : ml ≤ 200 := by
      rw [← HML.out]
      have h1 := List.length_filter_le P (all.take c)
      rw [List.length_take, HALn.out] at h1
      omega
    rw [HML.out] at HO ⊢
    have hsr := HB.out.size
    by_cases hlt : c < al
    · obtain ⟨k, HK⟩ : ∃ k, Hid (lsF all c = k) := ⟨_, rfl⟩
      obtain rfl := HVA.out.top (by omega)
      obtain ⟨e0', e1', e2', e3'⟩ := (HVA.out.below HB.out).cells hlt
      rw [HK.out] at e0' e1' e2' e3'
      simp only [Nat.zero_add] at e0' e1' e2' e3'
      have hbc : (0 : Int) ≤ (c : Int) ∧ (c : Int) < (al : Int) := by omega
      go_wp2
      obtain ⟨wk, hwk⟩ : ∃ wk, wk = wr.alloc (.cells #[.int .i64 k.k, .int .i64 k.n, .string k.s, .int .i64 k.a] 24) := ⟨_, rfl⟩
      have hbk : Below wr.heap.size wr wk := by rw [hwk]; exact (Below.refl _ _).alloc (Nat.le_refl _) _
      have HKb : Hid (ValB wk wr.heap.size k) := by rw [hwk]; exact heap_alloc_new _ _
      rw [← hwk]
      obtain ⟨qk, hqk⟩ : ∃ qk, wr.heap.size = qk := ⟨_, rfl⟩
      rw [hqk] at HKb ⊢
      have HBk : Hid (Below w3.heap.size w3 wk) := HB.out.trans (hbk.mono hsr)
      have HOk : Hid (wk.ownsRow w3.heap.size 24 4 (.slice oa ml oc) ml (keyCells ((all.take c).filter P))) := (Only.below (P := fun _ => False) hbk).owns HO.out (fun _ _ _ h => h)
      clear hwk hbk e0' e1' e2' e3' hqk HO HB hsr
      have HTk : Hid (Tbs wk n T M at_ L K X) := HT3.out.below HBk.out
      obtain ⟨c0, c1, _⟩ := two_at (blkB HC3.out HBk.out)
      have C0 : Hid (∀ w', Below wk.heap.size wk w' → w'.cell? ⟨w.heap.size, 0, none⟩ = some (ptr (T i))) := cellB c0
      have C1 : Hid (∀ w', Below wk.heap.size wk w' → w'.cell? ⟨w.heap.size, 1, none⟩ = some (ptr (T j))) := cellB c1
      obtain ⟨f0, f1, f2, f3, _⟩ := cells4 HKb.out
      have KC : Hid (∀ w', Below wk.heap.size wk w' → w'.cell? ⟨qk, 0, none⟩ = some (.int .i64 k.k) ∧ w'.cell? ⟨qk, 1, none⟩ = some (.int .i64 k.n) ∧ w'.cell? ⟨qk, 2, none⟩ = some (.string k.s) ∧ w'.cell? ⟨qk, 3, none⟩ = some (.int .i64 k.a)) := show ∀ _, _ from fun w' hb => ⟨cellB f0 w' hb, cellB f1 w' hb, cellB f2 w' hb, cellB f3 w' hb⟩
      clear f0 f1 f2 f3 c0 c1
      obtain ⟨x, HX⟩ : ∃ x, Hid (atKey (L i) (K i) (X i) k = x) := ⟨_, rfl⟩
      obtain ⟨y, HY⟩ : ∃ y, Hid (atKey (L j) (K j) (X j) k = y) := ⟨_, rfl⟩
      have hxv : isV n x = true := by rw [← HX.out]; exact isV_at (HOT.out i hi) k
      have hyv : isV n y = true := by rw [← HY.out]; exact isV_at (HOT.out j hj) k
      obtain ⟨bp, hbp⟩ : ∃ bp, (!(x.k == 4 && y.k == 4) && !(alike T x y)) = bp := ⟨_, rfl⟩
      have HBP : Hid (P k = bp) := by
        show _ = _
        rw [HPd.out]
        show (!((atKey (L i) (K i) (X i) k).k == 4 && (atKey (L j) (K j) (X j) k).k == 4) && !(alike T (atKey (L i) (K i) (X i) k) (atKey (L j) (K j) (X j) k))) = bp
        rw [HX.out, HY.out]
        exact hbp
      obtain ⟨xt, xw, hxi⟩ := ifv_form T x
      obtain ⟨yt, yw, hyi⟩ := ifv_form T y
      have CV1 : Hid (∀ w', Below wk.heap.size wk w' → Calls Tryz.prog 79 #[.iface 107 (ptr (T i)), .agg #[.int .i64 k.k, .int .i64 k.n, .string k.s, .int .i64 k.a]] w' fun e w'' => e = .returned (.iface xt xw) ∧ Below w'.heap.size w' w'') := show ∀ _, _ from fun w' hb => by
        have h := valueAt_tbs hi (fun a b ha hb hne => Vl.OkT.once (HOT.out i hi) ha hb hne) k w' (HTk.out.below hb)
        rw [HX.out, hxi] at h
        exact h
      have CV2 : Hid (∀ w', Below wk.heap.size wk w' → Calls Tryz.prog 79 #[.iface 107 (ptr (T j)), .agg #[.int .i64 k.k, .int .i64 k.n, .string k.s, .int .i64 k.a]] w' fun e w'' => e = .returned (.iface yt yw) ∧ Below w'.heap.size w' w'') := show ∀ _, _ from fun w' hb => by
        have h := valueAt_tbs hj (fun a b ha hb hne => Vl.OkT.once (HOT.out j hj) ha hb hne) k w' (HTk.out.below hb)
        rw [HY.out, hyi] at h
        exact h
      have CPT : Hid (∀ w', Below wk.heap.size wk w' → Calls Tryz.prog 78 #[.iface xt xw, .iface yt yw] w' fun e w'' => e = .returned (.bool bp) ∧ Below w'.heap.size w' w'') := show ∀ _, _ from fun w' hb => by
        have h := part_any T hxv hyv w' (HTk.out.below hb).isB
        rw [hbp, hxi, hyi] at h
        exact h
      clear hbp hxi hyi hxv hyv
      refine wp_region_held_drew (S := fun y => Below wk.heap.size wk y) (by kernel_rfl) (Below.refl _ _).drew (fun hHeld => ?_)
      generalize wk.drew = wd at hHeld ⊢
      refine wpT (i := 0) (v := .pointer (some ⟨w.heap.size, 0, none⟩)) rfl (fun w hSw => ?_) hHeld ?_
      · first | rfl | go_simp
      simp only [Act.put, pz]
      refine wpT (i := 1) (v := ptr (T i)) rfl (fun w hSw => ?_) hHeld ?_
      · have q0 := C0.out w hSw; first | rfl | go_simp
      simp only [Act.put, pz]
      refine wpT (i := 2) (v := .iface 107 (ptr (T i))) rfl (fun w hSw => ?_) hHeld ?_
      · first | rfl | go_simp
      simp only [Act.put, pz]
      refine wpT (i := 3) (v := .agg #[.int .i64 k.k, .int .i64 k.n, .string k.s, .int .i64 k.a]) rfl (fun w hSw => ?_) hHeld ?_
      · obtain ⟨q0, q1, q2, q3⟩ := KC.out w hSw; first | rfl | go_simp
      simp only [Act.put, pz]
      refine wpT (i := 5) (v := .pointer (some ⟨w.heap.size, 1, none⟩)) rfl (fun w hSw => ?_) hHeld ?_
      · first | rfl | go_simp
      simp only [Act.put, pz]
      refine wpT (i := 6) (v := ptr (T j)) rfl (fun w hSw => ?_) hHeld ?_
      · have q0 := C1.out w hSw; first | rfl | go_simp
      simp only [Act.put, pz]
      refine wpT (i := 7) (v := .iface 107 (ptr (T j))) rfl (fun w hSw => ?_) hHeld ?_
      · first | rfl | go_simp
      simp only [Act.put, pz]
      refine wpT (i := 8) (v := .agg #[.int .i64 k.k, .int .i64 k.n, .string k.s, .int .i64 k.a]) rfl (fun w hSw => ?_) hHeld ?_
      · obtain ⟨q0, q1, q2, q3⟩ := KC.out w hSw; first | rfl | go_simp
      simp only [Act.put, pz]
      refine wpAnyH_ready (rs := [4]) (by kernel_rfl) (by simp) ?_
      refine AllReadyH.cons rfl (fun KK hK' => ?_) AllReadyH.nil
      have hcall := CV1.out _ hHeld
      go_simp
      refine hcall.mono ?_
      clear hcall
      rintro e w5 ⟨rfl, hbw5⟩
      have hsw5 : Below wk.heap.size wk w5 := grw hHeld hbw5
      refine hK'.out _ _ hsw5 (fun hHeld => ?_)
      clear hK' hbw5
      refine wpAnyH_ready (rs := [9]) (by kernel_rfl) (by simp) ?_
      refine AllReadyH.cons rfl (fun KK hK' => ?_) AllReadyH.nil
      have hcall := CV2.out _ hHeld
      go_simp
      refine hcall.mono ?_
      clear hcall
      rintro e w6 ⟨rfl, hbw6⟩
      have hsw6 : Below wk.heap.size wk w6 := grw hHeld hbw6
      refine hK'.out _ _ hsw6 (fun hHeld => ?_)
      clear hK' hbw6
      refine wpAnyH_ready (rs := [10]) (by kernel_rfl) (by simp) ?_
      refine AllReadyH.cons rfl (fun KK hK' => ?_) AllReadyH.nil
      have hcall := CPT.out _ hHeld
      go_simp
      refine hcall.mono ?_
      clear hcall
      rintro e w7 ⟨rfl, hbw7⟩
      have hsw7 : Below wk.heap.size wk w7 := grw hHeld hbw7
      refine hK'.out _ _ hsw7 (fun hHeld => ?_)
      clear hK' hbw7
      refine wpAnyH_done (by kernel_rfl) ?_ _
      have HB7 : Hid (Below w3.heap.size w3 w7) := grw HBk.out hsw7
      have HO7 : Hid (w7.ownsRow w3.heap.size 24 4 (.slice oa ml oc) ml (keyCells ((all.take c).filter P))) := (Only.below (P := fun _ => False) hsw7).owns HOk.out (fun _ _ _ h => h)
      have HK7 : Hid (ValB w7 qk k) := HKb.out.below hsw7
      have HFS : Hid ((all.take (c + 1)).filter P = if bp = true then (all.take c).filter P ++ [k] else (all.take c).filter P) := by
        show _ = _
        rw [filt_succ all P c (by rw [HALn.out]; exact hlt), HK.out, HBP.out]
      clear hHeld hsw5 hsw6 hsw7 CV1 CV2 CPT C0 C1 KC HTk HBk HOk HKb
      cases bp
      · have HO8 : Hid (w7.ownsRow w3.heap.size 24 4 (.slice oa ml oc) ((all.take (c + 1)).filter P).length (keyCells ((all.take (c + 1)).filter P))) := by
          rw [HFS.out, if_neg (by simp), HML.out]
          exact HO7.out
        go_wp2
        go_roundw
        case rel => exact ⟨c + 1, by omega, by go_num, HO8, HB7⟩
        case measure => simp [intOf]; omega
      · obtain ⟨f0, f1, f2, f3, _⟩ := cells4 HK7.out
        have hs7 := HB7.out.size
        go_wp2_with (at_builtin; refine wpList_append_lies _ (by rfl) (.tmp 35) (.tmp 37) 42 (by rfl) w3.heap.size 24 iv (.agg #[.int .i64 0, .int .i64 0, .string ⟨#[]⟩, .int .i64 0]) 4 40 Tryz.underlying42 hiv hz0 hz1 hz2 (by rfl) (by omega) (.slice oa ml oc) ml (keyCells ((all.take c).filter P)) (by rfl) (HO7.out.alloc _) ⟨w7.heap.size, 0, none⟩ 1 1 [.int .i64 k.k, .int .i64 k.n, .string k.s, .int .i64 k.a] (by rfl) (by rfl) ?c1 ?c2 (by omega) ?c3 ?c4 ?c5 (w7.heap.size + 1) ?c6 ?_)
        try case c1 => exact World.news_of_block (heap_alloc_new w7 _)
        case c2 => exact ⟨rfl, rfl, rfl, rfl⟩
        case c3 => unfold maxLen; omega
        case c4 => omega
        case c5 => omega
        try case c6 => simp
        intro g2 cap w8 hown8 hgrow8 hat8 hlt8
        have hb8 : Below w3.heap.size (w7.alloc (.cells #[.int .i64 k.k, .int .i64 k.n, .string k.s, .int .i64 k.a] 24)) w8 := below_grown (HO7.out.alloc _) hgrow8 (by simp; omega)
        have HB8 : Hid (Below w3.heap.size w3 w8) := (HB7.out.alloc HB7.out.size _).trans hb8
        have HO8 : Hid (w8.ownsRow w3.heap.size 24 4 (.slice (some ⟨g2, 0, none⟩) (ml + 1) cap) ((all.take (c + 1)).filter P).length (keyCells ((all.take (c + 1)).filter P))) := by
          rw [HFS.out, if_pos (by simp), keyCells_snoc, List.length_append, HML.out]
          exact hown8
        clear hown8 hgrow8 hat8 hlt8 hb8 f0 f1 f2 f3
        go_wp2
        go_roundw
        case rel => exact ⟨c + 1, by omega, by go_num, HO8, HB8⟩
        case measure => simp [intOf]; omega
    · obtain rfl : al = c := by omega
      have HFA : Hid ((all.take al).filter P = all.filter P) := by
        show _ = _
        rw [List.take_of_length_le (by rw [HALn.out]; exact Nat.le_refl _)]
      rw [HFA.out] at HO HML
      have HBr : Hid (Below w.heap.size w wr) := grw HB3.out HB.out
      have HRr : Hid (ValB wr (w.heap.size + 1) zeroV) := HR3.out.below HB.out
      by_cases h0 : ml = 0
      · have he : ((ml : Int) == 0) = true := by simp [h0]
        have HNO : Hid (all.filter P = []) := List.length_eq_zero_iff.1 (HML.out.trans h0)
        clear h0
        obtain ⟨r0, r1, r2, r3, rz⟩ := cells4 HRr.out
        go_wp2
        obtain ⟨q0, q1, q2, q3, _⟩ := cells4 (put4r HRr.out (.int .i64 0) (.int .i64 0) (.string ⟨#[]⟩) (.int .i64 0))
        refine bodyPost_ret (v := .tuple #[vAgg zeroV, .bool false]) (by simp [results, Tryz.results39, go_sem, q0, q1, q2, q3, zeroV]) rfl ⟨Or.inl ⟨HNO.out, rfl⟩, ?_⟩
        exact HBr.out.trans (set4_below.mono (by omega))
      · have he : ((ml : Int) == 0) = false := by simp [h0]
        obtain ⟨ra, rc, rB, er, hvr⟩ := owns_rowV HML.out HO.out
        rw [HML.out] at er hvr
        cases er
        obtain rfl := hvr.top (by omega)
        have HMK : Hid (∀ c, c < ml → isK (lsF (all.filter P) c) = true) := show ∀ c, _ from fun c hc => by
          have hcl : c < (all.filter P).length := by rw [HML.out]; exact hc
          have hm : lsF (all.filter P) c ∈ all.filter P := by
            unfold lsF
            rw [List.getD_eq_getElem?_getD, List.getElem?_eq_getElem hcl]
            exact List.getElem_mem _
          exact HALK.out _ (List.mem_filter.1 hm).1
        have hmn := minFunc_any rB ml oc (lsF (all.filter P)) wr (by omega) (by omega) HMK hvr
        clear hvr
        go_wp2_with fail
        refine hmn.mono ?_
        clear hmn
        rintro e w9 ⟨⟨k, rfl, hke, hka⟩, hb9⟩
        have HKE : Hid (k ∈ all.filter P ∧ ∀ x ∈ all.filter P, less x k = false) := by
          refine ⟨?_, fun x hx => ?_⟩
          · obtain ⟨q, hq, rfl⟩ := hke
            have hcl : q < (all.filter P).length := by rw [HML.out]; exact hq
            unfold lsF
            rw [List.getD_eq_getElem?_getD, List.getElem?_eq_getElem hcl]
            exact List.getElem_mem _
          · obtain ⟨q, hq, rfl⟩ := List.mem_iff_getElem.1 hx
            have := hka q (by rw [← HML.out]; exact hq)
            unfold lsF at this
            rw [List.getD_eq_getElem?_getD, List.getElem?_eq_getElem hq] at this
            exact this
        have HB9 : Hid (Below w.heap.size w w9) := grw HBr.out hb9
        have HR9 : Hid (ValB w9 (w.heap.size + 1) zeroV) := HRr.out.below hb9
        clear hke hka hb9
        obtain ⟨r0, r1, r2, r3, rz⟩ := cells4 HR9.out
        go_wp2
        obtain ⟨q0, q1, q2, q3, _⟩ := cells4 (HR9.out.put k)
        refine bodyPost_ret (v := .tuple #[vAgg k, .bool true]) (by simp [results, Tryz.results39, go_sem, q0, q1, q2, q3]) rfl ⟨Or.inr ⟨k, rfl, HKE.out.1, HKE.out.2⟩, ?_⟩
        exact HB9.out.trans (set4_below.mono (by omega))

end Go.Proofs.YtgflalfiopnmnaaGreatDoor

namespace Go.Proofs.YtgflalfiopnmnaaGreatDoor
open Go.RowKit Vl Aw

theorem keyCells_put {K : Nat → V} {c j : Nat} (hj : j < c) (k : V) :
    ((((keyCells (keys K c)).set (j * 4) (.int .i64 k.k)).set (j * 4 + 1) (.int .i64 k.n)).set (j * 4 + 2) (.string k.s)).set (j * 4 + 3) (.int .i64 k.a) = keyCells (keys (fun i => if i = j then k else K i) c) := by
  apply List.ext_getElem?
  intro m
  by_cases hm : m < c * 4
  · obtain ⟨q, i, hi, rfl⟩ : ∃ q i, i < 4 ∧ m = q * 4 + i := ⟨m / 4, m % 4, by omega, by omega⟩
    have hq : q < c := by omega
    rw [keyCells_at _ _ _ _ hq hi]
    simp only [List.getElem?_set, List.length_set, keyCells_len]
    by_cases e : q = j
    · subst e
      simp only [if_true]
      have hlt : ∀ d, d < 4 → q * 4 + d < c * 4 := fun d hd => by omega
      rcases (show i = 0 ∨ i = 1 ∨ i = 2 ∨ i = 3 by omega) with rfl | rfl | rfl | rfl <;> simp [hlt, show q * 4 < c * 4 by omega]
    · simp only [e, if_false]
      rw [if_neg (by omega), if_neg (by omega), if_neg (by omega), if_neg (by omega)]
      exact keyCells_at K c q i hq hi
  · rw [List.getElem?_eq_none (by simp only [List.length_set, keyCells_len]; omega), List.getElem?_eq_none (by rw [keyCells_len]; omega)]
theorem owns_putV {w : World} {base n g cap j : Nat} {K : Nat → V} (h : w.ownsRow base 24 4 (.slice (some ⟨g, 0, none⟩) n cap) n (keyCells (keys K n))) (hj : j < n) (k : V) :
    ((((w.setCell ⟨g, j * 4, none⟩ (.int .i64 k.k)).setCell ⟨g, j * 4 + 1, none⟩ (.int .i64 k.n)).setCell ⟨g, j * 4 + 2, none⟩ (.string k.s)).setCell ⟨g, j * 4 + 3, none⟩ (.int .i64 k.a)).ownsRow base 24 4 (.slice (some ⟨g, 0, none⟩) n cap) n (keyCells (keys (fun i => if i = j then k else K i) n)) := by
  rw [← keyCells_put hj]
  exact owns_set (owns_set (owns_set (owns_set h _ _) _ _) _ _) _ _
theorem keys_congr {K K' : Nat → V} {c : Nat} (h : ∀ j, j < c → K j = K' j) : keys K c = keys K' c := by
  unfold keys
  exact List.map_congr_left (fun j hj => h j (List.mem_range.1 hj))
theorem only4 {w : World} {g a0 a1 a2 a3 : Nat} {v0 v1 v2 v3 : Value} : Only (fun k => k = g) w ((((w.setCell ⟨g, a0, none⟩ v0).setCell ⟨g, a1, none⟩ v1).setCell ⟨g, a2, none⟩ v2).setCell ⟨g, a3, none⟩ v3) :=
  ((((Only.refl (fun k => k = g) w).set (p := ⟨g, a0, none⟩) rfl v0).set (p := ⟨g, a1, none⟩) rfl v1).set (p := ⟨g, a2, none⟩) rfl v2).set (p := ⟨g, a3, none⟩) rfl v3

def rv (K : Nat → V) (L i c : Nat) : V := if c < i ∨ L ≤ c + i then K (L - 1 - c) else K c

set_option maxHeartbeats 2000000 in
set_option maxRecDepth 100000 in
theorem reverse_any (base g cap L : Nat) (K : Nat → V) (w : World) (hL : L ≤ 10000000) (HO : Hid (w.ownsRow base 24 4 (.slice (some ⟨g, 0, none⟩) L cap) L (keyCells (keys K L)))) :
    Calls Tryz.prog 81 #[.slice (some ⟨g, 0, none⟩) L cap] w fun e w' => e = .returned (.tuple #[]) ∧ w'.ownsRow base 24 4 (.slice (some ⟨g, 0, none⟩) L cap) L (keyCells (keys (fun c => K (L - 1 - c)) L)) ∧ Only (fun k => k = g) w w' := by
  have hwl : IntKind.i64.wrap ((L : Int) - 1) = (L : Int) - 1 := by rw [IntKind.wrap_i64]; omega
  go_enter Tryz.func81, Tryz.ntmps81
  go_wp2
  clear hwl
  go_loopw [2, 3] (fun s2 s3 wr => ∃ i : Nat, i ≤ L ∧ s2 = .int .i64 i ∧ s3 = .int .i64 ((L : Int) - 1 - (i : Int)) ∧ Hid (wr.ownsRow base 24 4 (.slice (some ⟨g, 0, none⟩) L cap) L (keyCells (keys (rv K L i) L))) ∧ Hid (Only (fun k => k = g) w wr)) (fun s2 _ _ => L + 1 - (intOf s2).toNat)
  case atStart => exact ⟨0, Nat.zero_le _, rfl, by simp, by rw [keys_congr (K' := K) (fun j hj => by unfold rv; rw [if_neg (by omega)])]; exact HO, Only.refl _ _⟩
  case round =>
    obtain ⟨i, hiL, rfl, rfl, HR, HN⟩ := hrel
    by_cases hlt : (i : Int) < (L : Int) - 1 - (i : Int)
    · obtain ⟨jn, hj⟩ : ∃ jn : Nat, (L : Int) - 1 - (i : Int) = (jn : Int) := ⟨L - 1 - i, by omega⟩
      have HJ : Hid (jn = L - 1 - i) := show _ = _ by omega
      rw [hj] at hlt ⊢
      have hij : i < jn := by omega
      have hjL : jn < L := by omega
      obtain ⟨e, hv⟩ := owns_keys HR.out
      obtain ⟨a0, a1, a2, a3⟩ := hv.cells (c := i) (by omega)
      obtain ⟨b0, b1, b2, b3⟩ := hv.cells (c := jn) hjL
      obtain ⟨xi, HXI⟩ : ∃ x, Hid (K i = x) := ⟨_, rfl⟩
      obtain ⟨xj, HXJ⟩ : ∃ x, Hid (K jn = x) := ⟨_, rfl⟩
      have ei : rv K L i i = xi := by unfold rv; rw [if_neg (by omega)]; exact HXI.out
      have ej : rv K L i jn = xj := by unfold rv; rw [if_neg (by have := HJ.out; omega)]; exact HXJ.out
      rw [ei] at a0 a1 a2 a3
      rw [ej] at b0 b1 b2 b3
      simp only [Nat.zero_add, slB, slA] at a0 a1 a2 a3 b0 b1 b2 b3
      have fz := owns_frozen HR.out
      have hbi : (0 : Int) ≤ (i : Int) ∧ (i : Int) < (L : Int) := by omega
      have hbj : (0 : Int) ≤ (jn : Int) ∧ (jn : Int) < (L : Int) := by omega
      have hwi : IntKind.i64.wrap ((i : Int) + 1) = (i : Int) + 1 := by rw [IntKind.wrap_i64]; omega
      have hwj : IntKind.i64.wrap ((jn : Int) - 1) = (jn : Int) - 1 := by rw [IntKind.wrap_i64]; omega
      have HSI : Hid (∀ w1 : World, w1.ownsRow base 24 4 (.slice (some ⟨g, 0, none⟩) L cap) L (keyCells (keys (fun c => if c = jn then xi else if c = i then xj else rv K L i c) L)) → w1.ownsRow base 24 4 (.slice (some ⟨g, 0, none⟩) L cap) L (keyCells (keys (rv K L (i + 1)) L))) := show ∀ w1, _ from fun w1 h => by
        rw [keys_congr (K' := fun c => if c = jn then xi else if c = i then xj else rv K L i c) (fun c hc => ?_)]
        · exact h
        · have hjn := HJ.out
          by_cases e1 : c = jn
          · rw [if_pos e1, ← HXI.out]
            unfold rv
            rw [if_pos (by omega)]
            congr 1
            omega
          · rw [if_neg e1]
            by_cases e2 : c = i
            · rw [if_pos e2, ← HXJ.out]
              unfold rv
              rw [if_pos (by omega)]
              congr 1
              omega
            · rw [if_neg e2]
              unfold rv
              by_cases e3 : c < i ∨ L ≤ c + i
              · rw [if_pos e3, if_pos (by omega)]
              · rw [if_neg e3, if_neg (by omega)]
      clear e hv ei ej
      go_wp2
      go_region
      obtain ⟨w4, hw4⟩ : ∃ w4, w4 = (((wr.setCell ⟨g, i * 4, none⟩ (.int .i64 xj.k)).setCell ⟨g, i * 4 + 1, none⟩ (.int .i64 xj.n)).setCell ⟨g, i * 4 + 2, none⟩ (.string xj.s)).setCell ⟨g, i * 4 + 3, none⟩ (.int .i64 xj.a) := ⟨_, rfl⟩
      have h4 : w4.ownsRow base 24 4 (.slice (some ⟨g, 0, none⟩) L cap) L (keyCells (keys (fun c => if c = i then xj else rv K L i c) L)) := by rw [hw4]; exact owns_putV HR.out (by omega) xj
      have o4 : Only (fun k => k = g) wr w4 := by rw [hw4]; exact only4
      rw [← hw4]
      obtain ⟨w5, hw5⟩ : ∃ w5, w5 = (((w4.setCell ⟨g, jn * 4, none⟩ (.int .i64 xi.k)).setCell ⟨g, jn * 4 + 1, none⟩ (.int .i64 xi.n)).setCell ⟨g, jn * 4 + 2, none⟩ (.string xi.s)).setCell ⟨g, jn * 4 + 3, none⟩ (.int .i64 xi.a) := ⟨_, rfl⟩
      have h5 : w5.ownsRow base 24 4 (.slice (some ⟨g, 0, none⟩) L cap) L (keyCells (keys (fun c => if c = jn then xi else if c = i then xj else rv K L i c) L)) := by rw [hw5]; exact owns_putV h4 hjL xi
      have o5 : Only (fun k => k = g) w4 w5 := by rw [hw5]; exact only4
      rw [← hw5]
      obtain ⟨w6, hw6⟩ : ∃ w6, w6 = w5.drew := ⟨_, rfl⟩
      have HR6 : Hid (w6.ownsRow base 24 4 (.slice (some ⟨g, 0, none⟩) L cap) L (keyCells (keys (rv K L (i + 1)) L))) := by rw [hw6]; exact HSI.out w5 h5
      have HN6 : Hid (Only (fun k => k = g) w w6) := by rw [hw6]; exact ((HN.out.trans o4).trans o5).trans (Only.below (Below.refl _ _).drew)
      rw [← hw6]
      clear hw4 hw5 hw6 h4 h5 o4 o5 a0 a1 a2 a3 b0 b1 b2 b3 fz HR HN
      go_wp2
      go_roundw
      case rel => exact ⟨i + 1, by omega, by go_num, by rw [← hj]; simp; omega, HR6, HN6⟩
      case measure => simp [intOf]; omega
    · have HE : Hid (keys (rv K L i) L = keys (fun c => K (L - 1 - c)) L) := keys_congr (fun c hc => by
        unfold rv
        by_cases e : c < i ∨ L ≤ c + i
        · rw [if_pos e]
        · rw [if_neg e]
          congr 1
          omega)
      go_wp2
      go_end0
      exact ⟨rfl, by rw [← HE.out]; exact HR.out, HN.out⟩

end Go.Proofs.YtgflalfiopnmnaaGreatDoor

namespace Go.Proofs.YtgflalfiopnmnaaGreatDoor
open Go.RowKit Vl Aw

structure Sts (w : World) (n : Nat) (T : Nat → Nat) (q : List Aw.E) (SB : Nat → Nat) : Prop where
  st : ∀ i, i < q.length → ∃ (k : V) (ah : Option Addr), w.heap[SB i]? = some (.cells #[ptr (T (lsE q i).a.a.toNat), ptr (T (n + (lsE q i).b.a.toNat)), .int .i64 k.k, .int .i64 k.n, .string k.s, .int .i64 k.a, .pointer ah] 112 (0, 0)) ∧ (((lsE q i).p = [] ∧ ah = none) ∨ ∃ i', i' < i ∧ ah = some ⟨SB i', 0, none⟩ ∧ (lsE q i).p = (lsE q i').p ++ [k])
theorem Sts.only {w w' : World} {n : Nat} {T : Nat → Nat} {q : List Aw.E} {SB : Nat → Nat} {P : Nat → Prop} (h : Sts w n T q SB) (ho : Only P w w') (hP : ∀ i, i < q.length → ¬ P (SB i)) : Sts w' n T q SB := ⟨fun i hi => by
  obtain ⟨k, ah, h1, h2⟩ := h.st i hi
  exact ⟨k, ah, (ho.block _ (blk_lt h1) (hP i hi)).trans h1, h2⟩⟩
theorem Sts.below {w w' : World} {n : Nat} {T : Nat → Nat} {q : List Aw.E} {SB : Nat → Nat} (h : Sts w n T q SB) (hb : Below w.heap.size w w') : Sts w' n T q SB := h.only (Only.below (P := fun _ => False) hb) (fun _ _ h => h)
theorem cellsSt {w : World} {B : Nat} {c0 c1 c2 c3 c4 c5 c6 : Value} {t : TypeId} (H : w.heap[B]? = some (.cells #[c0, c1, c2, c3, c4, c5, c6] t (0, 0))) :
    w.cell? ⟨B, 0, none⟩ = some c0 ∧ w.cell? ⟨B, 1, none⟩ = some c1 ∧ w.cell? ⟨B, 2, none⟩ = some c2 ∧ w.cell? ⟨B, 3, none⟩ = some c3 ∧ w.cell? ⟨B, 4, none⟩ = some c4 ∧ w.cell? ⟨B, 5, none⟩ = some c5 ∧ w.cell? ⟨B, 6, none⟩ = some c6 ∧ ∀ i, w.frozen? ⟨B, i, none⟩ = false := by
  refine ⟨?_, ?_, ?_, ?_, ?_, ?_, ?_, fun i => ?_⟩ <;> simp [World.cell?, World.frozen?, H]

def slN : Value → Nat
  | .slice _ n _ => n
  | _ => 0

set_option maxHeartbeats 1000000 in
theorem reverse_nil (w : World) : Calls Tryz.prog 81 #[.slice none 0 0] w fun e w' => e = .returned (.tuple #[]) ∧ w' = w := by
  go_enter Tryz.func81, Tryz.ntmps81
  go_wp2
  go_loopw [2, 3] (fun s2 s3 wr => s2 = .int .i64 0 ∧ s3 = .int .i64 (-1) ∧ wr = w) (fun _ _ _ => 0)
  case atStart => exact ⟨rfl, rfl, rfl⟩
  case round =>
    obtain ⟨rfl, rfl, e⟩ := hrel
    go_wp2
    go_end0
    exact ⟨rfl, rfl⟩

theorem rev_row {rest p : List V} (h : rest.reverse = p) : keys (fun c => lsF rest (rest.length - 1 - c)) rest.length = p := by
  rw [← h]
  refine List.ext_getElem (by simp [keys]) (fun i h1 h2 => ?_)
  have hi : i < rest.length := by simpa [keys] using h1
  have hj : rest.length - 1 - i < rest.length := by omega
  simp only [keys, List.getElem_map, List.getElem_range, lsF, List.getD_eq_getElem?_getD, List.getElem?_eq_getElem hj, Option.getD_some, List.getElem_reverse]

set_option maxHeartbeats 2000000 in
set_option maxRecDepth 100000 in
theorem path_any (n : Nat) (T : Nat → Nat) (q : List Aw.E) (SB : Nat → Nat) (i : Nat) (p : List V) (w : World) (hi : i < q.length) (HP : Hid ((lsE q i).p = p)) (hp : p.length ≤ 1000000) (HS : Hid (Sts w n T q SB)) :
    Calls Tryz.prog 40 #[ptr (SB i)] w fun e w' => (∃ v, e = .returned v ∧ w'.ownsRow w.heap.size 24 4 v p.length (keyCells p)) ∧ Below w.heap.size w w' := by
  have hn1 : ∀ (b : Nat) (w : World), (binOp .neq 110 (.pointer (some ⟨b, 0, none⟩)) (.pointer none)).run Tryz.prog w = .ok (.bool true) w := fun b w => by kernel_rfl
  have hn0 : ∀ (w : World), (binOp .neq 110 (.pointer none) (.pointer none)).run Tryz.prog w = .ok (.bool false) w := fun w => by kernel_rfl
  obtain ⟨iv, hiv, hz0, hz1, hz2⟩ := info_parts infoV
  go_enter Tryz.func40, Tryz.ntmps40
  go_wp2
  go_loopw [0, 3] (fun sv ov wr => ∃ (j : Nat) (rest : List V), j < q.length ∧ sv = ptr (SB j) ∧ Hid ((lsE q j).p ++ rest.reverse = p) ∧ Hid (wr.ownsRow w.heap.size 24 4 ov rest.length (keyCells rest)) ∧ Hid (Below w.heap.size w wr)) (fun _ ov _ => p.length - slN ov)
  case atStart => exact ⟨i, [], hi, rfl, by rw [List.reverse_nil, List.append_nil]; exact HP, World.ownsRow_nil _ _ _ _, Below.refl _ _⟩
  case round =>
    obtain ⟨j, rest, hj, rfl, HQ, HO, HB⟩ := hrel
    obtain ⟨k, ah, hblk, hcase⟩ := (HS.out.below HB.out).st j hj
    obtain ⟨d0, d1, d2, d3, d4, d5, d6, _⟩ := cellsSt hblk
    obtain ⟨oa, oc, rfl, _⟩ := owns_form HO.out
    obtain ⟨rl, HRL⟩ : ∃ rl, Hid (rest.length = rl) := ⟨_, rfl⟩
    have hlen : (lsE q j).p.length + rl = p.length := by
      rw [← HQ.out, List.length_append, List.length_reverse, HRL.out]
    rw [HRL.out] at HO ⊢
    have hsr := HB.out.size
    clear hblk
    rcases hcase with ⟨hnil, rfl⟩ | ⟨j', hj', rfl, hpe⟩
    · have HRV : Hid (rest.reverse = p) := by have h := HQ.out; rw [hnil, List.nil_append] at h; exact h
      clear hnil d0 d1 d2 d3 d4 d5
      rcases HO.out.2 with ⟨he, h0⟩ | ⟨g, cap, cur, he, _⟩
      · cases he
        have hrn := reverse_nil wr
        have HE : Hid (wr.ownsRow w.heap.size 24 4 (.slice none 0 0) p.length (keyCells p)) := by
          have hr : rest = [] := List.length_eq_zero_iff.1 (HRL.out.trans h0)
          have hp0 : p = [] := by rw [← HRV.out, hr]; rfl
          rw [hp0]
          exact World.ownsRow_nil _ _ _ _
        clear h0 hlen
        go_wp2_with fail
        refine hrn.mono ?_
        clear hrn
        rintro e w5 ⟨rfl, rfl⟩
        go_wp2
        go_ret
        exact ⟨⟨_, rfl, HE.out⟩, HB.out⟩
      · cases he
        have hO2 : wr.ownsRow w.heap.size 24 4 (.slice (some ⟨g, 0, none⟩) rl oc) rl (keyCells (keys (lsF rest) rl)) := by
          have e : keys (lsF rest) rl = rest := by rw [← HRL.out]; exact keys_lsF rest
          rw [e]; exact HO.out
        have hrn := reverse_any w.heap.size g oc rl (lsF rest) wr (by omega) hO2
        have HGB : Hid (w.heap.size ≤ g) := by
          obtain ⟨_, _, _, hk⟩ := owns_form hO2
          exact (hk g rfl).1
        clear hO2
        go_wp2_with fail
        refine hrn.mono ?_
        clear hrn
        rintro e w5 ⟨rfl, hown5, honly5⟩
        have HE : Hid (w5.ownsRow w.heap.size 24 4 (.slice (some ⟨g, 0, none⟩) rl oc) p.length (keyCells p)) := by
          have e1 := rev_row HRV.out
          rw [HRL.out] at e1
          rw [e1] at hown5
          have e2 : p.length = rl := by rw [← HRV.out, List.length_reverse]; exact HRL.out
          rw [e2]
          exact hown5
        have HB5 : Hid (Below w.heap.size w w5) := HB.out.trans (honly5.toBelow (fun k e => by subst e; exact HGB.out) HB.out.size)
        clear hown5 honly5
        go_wp2
        go_ret
        exact ⟨⟨_, rfl, HE.out⟩, HB5.out⟩
    · have HQ2 : Hid ((lsE q j').p ++ (rest ++ [k]).reverse = p) := by
        have h := HQ.out
        rw [hpe, List.append_assoc] at h
        rw [List.reverse_append]
        exact h
      have hpl : (lsE q j).p.length = (lsE q j').p.length + 1 := by rw [hpe, List.length_append]; rfl
      clear hpe
      go_wp2_with (at_builtin; refine wpList_append_lies _ (by rfl) (.tmp 13) (.tmp 18) 42 (by rfl) w.heap.size 24 iv (.agg #[.int .i64 0, .int .i64 0, .string ⟨#[]⟩, .int .i64 0]) 4 40 Tryz.underlying42 hiv hz0 hz1 hz2 (by rfl) (by omega) (.slice oa rl oc) rl (keyCells rest) (by rfl) (HO.out.alloc _) ⟨wr.heap.size, 0, none⟩ 1 1 [.int .i64 k.k, .int .i64 k.n, .string k.s, .int .i64 k.a] (by rfl) (by rfl) ?c1 ?c2 (by omega) ?c3 ?c4 ?c5 (wr.heap.size + 1) ?c6 ?_)
      case c1 => exact World.news_of_block (heap_alloc_new wr _)
      case c2 => intro u hu; simp at hu; rcases hu with rfl | rfl | rfl | rfl <;> rfl
      case c3 => unfold maxLen; omega
      case c4 => omega
      case c5 => simp; omega
      case c6 => simp
      intro g cap w6 hown6 hgrow6 hat6 hlt6
      have hb6 : Below w.heap.size (wr.alloc (.cells #[.int .i64 k.k, .int .i64 k.n, .string k.s, .int .i64 k.a] 24)) w6 := below_grown (HO.out.alloc _) hgrow6 (by simp; omega)
      have HB6 : Hid (Below w.heap.size w w6) := (HB.out.alloc HB.out.size _).trans hb6
      have HO6 : Hid (w6.ownsRow w.heap.size 24 4 (.slice (some ⟨g, 0, none⟩) (rl + 1) cap) (rest ++ [k]).length (keyCells (rest ++ [k]))) := by
        rw [keyCells_snoc, List.length_append, HRL.out]
        exact hown6
      obtain ⟨k2, ah2, hblk2, _⟩ := (HS.out.below HB6.out).st j hj
      clear hown6 hgrow6 hat6 hlt6 hb6
      have hd6 : w6.cell? ⟨SB j, 6, none⟩ = some (.pointer (some ⟨SB j', 0, none⟩)) := by
        have h6 : w.cell? ⟨SB j, 6, none⟩ = wr.cell? ⟨SB j, 6, none⟩ := by
          obtain ⟨_, _, hb0, _⟩ := HS.out.st j hj
          exact (HB.out.cell (p := ⟨SB j, 6, none⟩) (blk_lt hb0)).symm
        have hlt : SB j < w.heap.size := by obtain ⟨_, _, hb0, _⟩ := HS.out.st j hj; exact blk_lt hb0
        rw [HB6.out.cell (p := ⟨SB j, 6, none⟩) hlt, h6]
        exact d6
      clear d0 d1 d2 d3 d4 d5 d6 hblk2
      go_wp2
      go_roundw
      case rel => exact ⟨j', rest ++ [k], by omega, rfl, HQ2, HO6, HB6⟩
      case measure => simp [slN]; omega

end Go.Proofs.YtgflalfiopnmnaaGreatDoor

namespace Go.Proofs.YtgflalfiopnmnaaGreatDoor
open Go.RowKit Vl Aw

theorem Tryz.infoStep : (Tryz.prog.info? 110).map (fun i => (i.zero, i.size, i.bytes)) = some (some (.pointer none), 1, 8) := by kernel_rfl

def QuL (w : World) (base : Nat) (wv : Value) (l : List Nat) : Prop :=
  (wv = .slice none 0 0 ∧ l = []) ∨ ∃ g off cap cur, wv = .slice (some ⟨g, off, none⟩) l.length cap ∧ base ≤ g ∧ w.heap[g]? = some (.cells cur 110 (0, 0)) ∧ l.length ≤ cap ∧ off + cap ≤ cur.size ∧ ∀ i b, l[i]? = some b → cur[off + i]? = some (ptr b)

theorem owns_qu {w : World} {base b0 n : Nat} {v : Value} {l : List Nat} (hn : l.length = n) (h : w.ownsRow b0 110 1 v n (l.map ptr)) (hb : base ≤ b0) : QuL w base v l := by
  subst hn
  rcases h.2 with ⟨rfl, h0⟩ | ⟨g, cap, cur, rfl, hg, hh, hle, _, hs, ht⟩
  · exact Or.inl ⟨rfl, List.length_eq_zero_iff.1 h0⟩
  · refine Or.inr ⟨g, 0, cap, cur, rfl, Nat.le_trans hb hg, hh, hle, by omega, fun i b hi => ?_⟩
    have hil := (List.getElem?_eq_some_iff.1 hi).1
    have h1 : (l.map ptr)[i]? = some (ptr b) := by rw [List.getElem?_map, hi]; rfl
    rw [← ht, List.getElem?_take, if_pos (by omega)] at h1
    rw [Nat.zero_add]
    simpa using h1

theorem QuL.same {w w' : World} {base : Nat} {wv : Value} {l : List Nat} (h : QuL w base wv l) (hs : ∀ g, wv.ownBlock = some g → w'.heap[g]? = w.heap[g]?) : QuL w' base wv l := by
  rcases h with h | ⟨g, off, cap, cur, e, h1, h2, h3⟩
  · exact Or.inl h
  · refine Or.inr ⟨g, off, cap, cur, e, h1, ?_, h3⟩
    rw [hs g (by rw [e]; rfl)]
    exact h2
theorem QuL.own {w : World} {base : Nat} {wv : Value} {l : List Nat} (h : QuL w base wv l) {g : Nat} (hg : wv.ownBlock = some g) : ∃ cur, w.heap[g]? = some (.cells cur 110 (0, 0)) := by
  rcases h with ⟨e, _⟩ | ⟨g', off, cap, cur, e, _, h2, _⟩
  · rw [e] at hg; cases hg
  · rw [e] at hg
    have : g' = g := Option.some.inj hg
    subst this
    exact ⟨cur, h2⟩

theorem QuL.lo {w : World} {base : Nat} {wv : Value} {l : List Nat} (h : QuL w base wv l) {g : Nat} (hg : wv.ownBlock = some g) : base ≤ g := by
  rcases h with ⟨e, _⟩ | ⟨g', off, cap, cur, e, h1, _⟩
  · rw [e] at hg; cases hg
  · rw [e] at hg
    have : g' = g := Option.some.inj hg
    subst this
    exact h1

theorem QuL.pop {w : World} {base : Nat} {wv : Value} {b : Nat} {l : List Nat} (h : QuL w base wv (b :: l)) : ∃ g off cap, wv = .slice (some ⟨g, off, none⟩) (l.length + 1) (cap + 1) ∧ w.cell? ⟨g, off, none⟩ = some (ptr b) ∧ QuL w base (.slice (some ⟨g, off + 1, none⟩) l.length cap) l := by
  rcases h with ⟨_, e⟩ | ⟨g, off, cap, cur, e, h1, h2, h3, h4, h5⟩
  · cases e
  · simp only [List.length_cons] at e h3
    obtain ⟨c, rfl⟩ : ∃ c, cap = c + 1 := ⟨cap - 1, by omega⟩
    refine ⟨g, off, c, e, ?_, Or.inr ⟨g, off + 1, c, cur, rfl, h1, h2, by omega, by omega, fun i x hx => ?_⟩⟩
    · have := h5 0 b rfl
      simp [World.cell?, h2]
      simpa using this
    · have := h5 (i + 1) x (by simpa using hx)
      rw [show off + 1 + i = off + (i + 1) by omega]
      exact this

theorem put5 {w : World} {B : Nat} {a b c d e : Value} {t : TypeId} (H : w.heap[B]? = some (.cells #[a, b, c, d, e] t (0, 0))) (d' : Value) : (w.setCell ⟨B, 3, none⟩ d').heap[B]? = some (.cells #[a, b, c, d', e] t (0, 0)) := by
  simp [World.setCell, Array.getElem?_modify, H]

set_option maxHeartbeats 2000000 in
set_option maxRecDepth 100000 in
theorem push_any (sB base b : Nat) (c0 c1 c2 c4 wv : Value) (l : List Nat) (w : World) (hl : l.length ≤ 100000) (hbs : base ≤ w.heap.size) (hsb : sB < base) (HB : Hid (w.heap[sB]? = some (.cells #[c0, c1, c2, wv, c4] 105 (0, 0)))) (HQ : Hid (QuL w base wv l)) :
    Calls Tryz.prog 75 #[.pointer (some ⟨sB, 3, none⟩), ptr b] w fun e w' => e = .returned (.tuple #[]) ∧ ∃ wv', w'.heap[sB]? = some (.cells #[c0, c1, c2, wv', c4] 105 (0, 0)) ∧ QuL w' base wv' (l ++ [b]) ∧ Only (fun k => k = sB ∨ wv.ownBlock = some k) w w' := by
  obtain ⟨s0, s1, s2, s3, s4, sz⟩ := cells5 HB.out
  obtain ⟨iv, hiv, hz0, hz1, hz2⟩ := info_parts Tryz.infoStep
  have hsl : sB < w.heap.size := by omega
  rcases HQ.out with ⟨rfl, rfl⟩ | ⟨g, off, cap, cur, rfl, hg, hh, hle, hsz, hat⟩
  · go_enter Tryz.func75, Tryz.ntmps75
    go_wp2_with (at_builtin; refine wpList_append_lies _ (by rfl) (.tmp 8) (.tmp 10) 101 (by rfl) base 110 iv (.pointer none) 1 8 Tryz.underlying101 hiv hz0 hz1 hz2 (by rfl) (by omega) (.slice none 0 0) 0 [] (by rfl) (World.ownsRow_nil _ _ _ _) ⟨w.heap.size, 0, none⟩ 1 1 [ptr b] (by rfl) (by rfl) ?c1 ?c2 (by omega) ?c3 ?c4 ?c5 (w.heap.size + 1) ?c6 ?_)
    case c1 => exact World.news_of_block (heap_alloc_new w _)
    case c2 => intro u hu; simp at hu; subst hu; rfl
    case c3 => unfold maxLen; omega
    case c4 => omega
    case c5 => simp; omega
    case c6 => simp
    intro g cap w6 hown6 hgrow6 hat6 hlt6
    have hB6 : w6.heap[sB]? = some (.cells #[c0, c1, c2, .slice none 0 0, c4] 105 (0, 0)) := ((hgrow6.block sB (by simp; omega) (fun e => by cases e)).trans (Below.heap_alloc _ _ _ hsl)).trans HB.out
    have ho6 : Only (fun k => k = sB ∨ (Value.slice none 0 0).ownBlock = some k) w w6 := ⟨hgrow6.os, hgrow6.tape, hgrow6.output, by have := hgrow6.size; simp at this; omega, fun k hk _ => (hgrow6.block k (by simp; omega) (fun e => by cases e)).trans (Below.heap_alloc _ _ _ hk)⟩
    have HB6 : Hid _ := hB6
    have HO6 : Hid _ := ho6
    have HQ6 : Hid (QuL w6 base (.slice (some ⟨g, 0, none⟩) 1 cap) [b]) := owns_qu rfl hown6 (Nat.le_refl _)
    have hgb : base ≤ g := by obtain ⟨_, _, _, hk⟩ := owns_form hown6; exact (hk g rfl).1
    obtain ⟨t0, t1, t2, t3, t4, tz⟩ := cells5 hB6
    clear hown6 hgrow6 hat6 hlt6 hB6 ho6
    go_wp2
    go_end0
    refine ⟨rfl, .slice (some ⟨g, 0, none⟩) 1 cap, put5 HB6.out _, HQ6.out.same (fun g' hg' => ?_), HO6.out.set (p := ⟨sB, 3, none⟩) (Or.inl rfl) _⟩
    have e : g = g' := Option.some.inj hg'
    exact Below.heap_setCell _ _ _ _ (by show g' ≠ sB; omega)
  · have hne : sB ≠ g := by omega
    have hgl := blk_lt hh
    have hcl : ∀ i x, (l.map ptr)[i]? = some x → w.cell? ⟨g, off + i, none⟩ = some x := fun i x hx => by
      rw [List.getElem?_map] at hx
      cases hb : l[i]? with
      | none => rw [hb] at hx; cases hx
      | some y =>
        rw [hb] at hx
        cases hx
        have := hat i y hb
        simp [World.cell?, hh]
        simpa using this
    have HCL : Hid _ := hcl
    have HHH : Hid (w.heap[g]? = some (.cells cur 110 (0, 0))) := hh
    have HAT : Hid (∀ i b, l[i]? = some b → cur[off + i]? = some (ptr b)) := hat
    have HSZ : Hid (off + cap ≤ cur.size ∧ l.length ≤ cap) := ⟨hsz, hle⟩
    obtain ⟨ll, HLL⟩ : ∃ ll, Hid (l.length = ll) := ⟨_, rfl⟩
    rw [HLL.out] at s3 hl ⊢
    have hwl := hbs
    clear hh hat hsz hle hcl
    go_enter Tryz.func75, Tryz.ntmps75
    go_wp2_with (at_builtin; refine wpList_append_arg _ (by rfl) (.tmp 8) (.tmp 10) 101 (by rfl) 110 iv (.pointer none) 1 8 Tryz.underlying101 hiv hz0 hz1 hz2 (by rfl) (by omega) g off ll cap (l.map ptr) (by rfl) ?d1 ?d2 ⟨w.heap.size, 0, none⟩ 1 1 [ptr b] (by rfl) (by rfl) ?d3 ?d4 ?d5 ?d6 ?d7 ?d8 ?d9)
    case d1 => rw [List.length_map, HLL.out, Nat.mul_one]
    case d2 => intro i x hx; exact (((Below.refl w.heap.size w).alloc (Nat.le_refl _) _).cell (p := ⟨g, off + i, none⟩) hgl).trans (HCL.out i x hx)
    case d3 => exact World.news_of_block (heap_alloc_new w _)
    case d4 => intro u hu; simp at hu; subst hu; rfl
    case d5 =>
      intro hroom i hi
      have hi0 : i = 0 := by simp at hi; exact hi
      subst hi0
      have hh1 : (w.alloc (.cells #[ptr b] 110)).heap[g]? = some (.cells cur 110 (0, 0)) := (Below.heap_alloc _ _ _ hgl).trans HHH.out
      have hlt : off + ll * 1 + 0 < cur.size := by have := HSZ.out.1; omega
      refine ⟨?_, by simp [World.frozen?, hh1]⟩
      simp only [World.cell?, hh1]
      simp
      omega
    case d6 => unfold maxLen; omega
    case d7 => omega
    case d8 =>
      intro hroom
      have e : (w.alloc (.cells #[ptr b] 110)).setCells g (off + ll) [ptr b] = (w.alloc (.cells #[ptr b] 110)).setCell ⟨g, off + ll, none⟩ (ptr b) := by simp [World.setCells]
      try simp only [Nat.mul_one]
      rw [e]
      clear e
      obtain ⟨w6, hw6⟩ : ∃ w6, w6 = (w.alloc (.cells #[ptr b] 110)).setCell ⟨g, off + ll, none⟩ (ptr b) := ⟨_, rfl⟩
      have hB6 : w6.heap[sB]? = some (.cells #[c0, c1, c2, .slice (some ⟨g, off, none⟩) ll cap, c4] 105 (0, 0)) := by
        rw [hw6, Below.heap_setCell _ _ _ _ hne, Below.heap_alloc _ _ _ hsl]
        have h := HB.out
        rw [HLL.out] at h
        exact h
      have hg6 : w6.heap[g]? = some (.cells (cur.setIfInBounds (off + ll) (ptr b)) 110 (0, 0)) := by
        rw [hw6]
        have hh1 : (w.alloc (.cells #[ptr b] 110)).heap[g]? = some (.cells cur 110 (0, 0)) := (Below.heap_alloc _ _ _ hgl).trans HHH.out
        simp [World.setCell, Array.getElem?_modify, hh1]
      have HQ6 : Hid (QuL w6 base (.slice (some ⟨g, off, none⟩) (ll + 1) cap) (l ++ [b])) := Or.inr ⟨g, off, cap, _, by rw [List.length_append, HLL.out]; rfl, hg, hg6, by rw [List.length_append, HLL.out]; exact hroom, by rw [Array.size_setIfInBounds]; exact HSZ.out.1, fun i x hx => by
        by_cases e : i = ll
        · subst e
          rw [List.getElem?_append_right (by rw [HLL.out]; exact Nat.le_refl _), HLL.out] at hx
          simp at hx
          subst hx
          rw [Array.getElem?_setIfInBounds_self_of_lt (by have := HSZ.out.1; omega)]
        · have hil : i < l.length := by
            have := (List.getElem?_eq_some_iff.1 hx).1
            rw [List.length_append, HLL.out] at this
            rw [HLL.out]
            simp at this
            omega
          rw [List.getElem?_append_left hil] at hx
          rw [Array.getElem?_setIfInBounds_ne (by omega)]
          exact HAT.out i x hx⟩
      have HO6 : Hid (Only (fun k => k = sB ∨ (Value.slice (some ⟨g, off, none⟩) ll cap).ownBlock = some k) w w6) := by
        rw [hw6]
        exact ((Only.refl _ w).alloc _).set (p := ⟨g, off + ll, none⟩) (Or.inr rfl) _
      have HB6 : Hid _ := hB6
      obtain ⟨t0, t1, t2, t3, t4, tz⟩ := cells5 hB6
      rw [← hw6]
      clear hw6 hB6 hg6 s0 s1 s2 s3 s4 sz
      go_wp2
      go_end0
      refine ⟨rfl, .slice (some ⟨g, off, none⟩) (ll + 1) cap, put5 HB6.out _, HQ6.out.same (fun g' hg' => ?_), HO6.out.set (p := ⟨sB, 3, none⟩) (Or.inl rfl) _⟩
      have e : g = g' := Option.some.inj hg'
      exact Below.heap_setCell _ _ _ _ (by show g' ≠ sB; omega)
    case d9 =>
      intro hfull v' w6 hown6 hgrow6
      obtain ⟨va, vc, hv', hvk⟩ := owns_form hown6
      have hB6 : w6.heap[sB]? = some (.cells #[c0, c1, c2, .slice (some ⟨g, off, none⟩) ll cap, c4] 105 (0, 0)) := by
        have h := HB.out
        rw [HLL.out] at h
        exact ((hgrow6.block sB (by simp; omega) (fun e => by cases e)).trans (Below.heap_alloc _ _ _ hsl)).trans h
      have HO6 : Hid (Only (fun k => k = sB ∨ (Value.slice (some ⟨g, off, none⟩) ll cap).ownBlock = some k) w w6) := ⟨hgrow6.os, hgrow6.tape, hgrow6.output, by have := hgrow6.size; simp at this; omega, fun k hk _ => (hgrow6.block k (by simp; omega) (fun e => by cases e)).trans (Below.heap_alloc _ _ _ hk)⟩
      have HQ6 : Hid (QuL w6 base v' (l ++ [b])) := owns_qu (by rw [List.length_append, HLL.out]) (by rw [List.map_append]; exact hown6) (by first | omega | (simp; omega))
      have HVK : Hid (∀ k, v'.ownBlock = some k → w.heap.size ≤ k) := show ∀ k, _ from fun k hk => by have := (hvk k hk).1; first | omega | (simp at this; omega)
      have HB6 : Hid _ := hB6
      obtain ⟨t0, t1, t2, t3, t4, tz⟩ := cells5 hB6
      subst hv'
      clear hown6 hgrow6 hvk hB6 s0 s1 s2 s3 s4 sz
      go_wp2
      go_end0
      refine ⟨rfl, .slice va (ll + 1) vc, put5 HB6.out _, HQ6.out.same (fun g' hg' => ?_), HO6.out.set (p := ⟨sB, 3, none⟩) (Or.inl rfl) _⟩
      have := HVK.out g' hg'
      exact Below.heap_setCell _ _ _ _ (by show g' ≠ sB; omega)

end Go.Proofs.YtgflalfiopnmnaaGreatDoor

namespace Go.Proofs.YtgflalfiopnmnaaGreatDoor
open Go.RowKit Vl Aw

abbrev cAgg (p : Nat × Nat) : Value := .agg #[ptr p.1, ptr p.2]
def cEq (p q : Nat × Nat) : Bool := p.1 == q.1 && p.2 == q.2
def cOk (w : World) (p : Nat × Nat) : Prop := IsB w p.1 ∧ IsB w p.2
theorem part_cp (p : Nat × Nat) (w : World) : (part 107 #[ptr p.1, ptr p.2] 0).run Tryz.prog w = .ok (ptr p.1) w ∧ (part 107 #[ptr p.1, ptr p.2] 1).run Tryz.prog w = .ok (ptr p.2) w := by
  constructor <;> kernel_rfl
theorem eq_cp (d : Nat) (p q : Nat × Nat) (w : World) (hp : cOk w p) (hq : cOk w q) : (Op.equalIn (d + 3) 109 (cAgg p) (cAgg q)).run Tryz.prog w = .ok (cEq p q) w := by
  rw [run_equalIn_struct w (d + 2) 109 _ _ (by kernel_rfl) (by kernel_rfl)]
  have hf : (Tryz.prog.fieldsOf 109).toList.map (fun f => (f.name == "_", f.type, f.offset)) = [(false, 107, 0), (false, 107, 1)] := by kernel_rfl
  generalize (Tryz.prog.fieldsOf 109).toList = fs at hf
  obtain ⟨f, g, rfl⟩ : ∃ f g, fs = [f, g] := by
    cases fs with
    | nil => simp at hf
    | cons f fs =>
      cases fs with
      | nil => simp at hf
      | cons g fs =>
        cases fs with
        | nil => exact ⟨f, g, rfl⟩
        | cons => simp at hf
  simp only [List.map_cons, List.map_nil, List.cons.injEq, Prod.mk.injEq, and_true] at hf
  obtain ⟨⟨f1, f2, f3⟩, ⟨g1, g2, g3⟩⟩ := hf
  have f1' : f.name ≠ "_" := by simpa using f1
  have g1' : g.name ≠ "_" := by simpa using g1
  have e4 : (Op.eqFields (d + 2) #[ptr p.1, ptr p.2] #[ptr q.1, ptr q.2] [g]).run Tryz.prog w = .ok (p.2 == q.2) w := by
    unfold Op.eqFields
    rw [if_pos g1', g2, g3]
    simp only [Sem.run_bind, (part_cp p w).2, (part_cp q w).2, Result.andThen_ok, eq_ptr p.2 q.2 w hp.2 hq.2 (d + 1)]
    cases p.2 == q.2
    · simp only [Bool.not_false, if_true, Sem.run_pure]
    · simp only [Bool.not_true, Bool.false_eq_true, if_false, Op.eqFields, Sem.run_pure]
  unfold Op.eqFields
  rw [if_pos f1', f2, f3]
  simp only [Sem.run_bind, (part_cp p w).1, (part_cp q w).1, Result.andThen_ok, eq_ptr p.1 q.1 w hp.1 hq.1 (d + 1)]
  unfold cEq
  cases p.1 == q.1
  · simp only [Bool.not_false, if_true, Bool.false_and, Sem.run_pure]
  · simp only [Bool.not_true, Bool.false_eq_true, if_false, Bool.true_and]
    exact e4
theorem cp_keyed : Keyed 100 109 167 cAgg cOk cEq (.agg #[]) where
  und := Tryz.underlying100
  eq := fun u v w hu hv => eq_cp 9997 u v w hu hv
  chk := fun em v w => by kernel_rfl
  now := ⟨_, Tryz.underlying109, fun u v => rfl⟩
  zero := fun w => by kernel_rfl

def cpl (n : Nat) (T : Nat → Nat) (e : Aw.E) : Nat × Nat := (T e.a.a.toNat, T (n + e.b.a.toNat))
def seenL (n : Nat) (T : Nat → Nat) (q : List Aw.E) : List ((Nat × Nat) × Value) := q.map fun e => (cpl n T e, .agg #[])
def waitL (SB : Nat → Nat) (j c : Nat) : List Nat := (List.range (c - j)).map fun i => SB (j + i)

structure Sea (w : World) (n m : Nat) (T : Nat → Nat) (sB sm cb base : Nat) (rv tv : Value) (j : Nat) (q : List Aw.E) (SB : Nat → Nat) : Prop where
  blk : ∃ wv, w.heap[sB]? = some (.cells #[rv, tv, .slice (some ⟨cb, 0, none⟩) (n + m) (n + m), wv, .map (some sm)] 105 (0, 0)) ∧ QuL w base wv (waitL SB j q.length)
  sts : Sts w n T q SB
  seen : MapG cAgg w sm (seenL n T q)
  lo : sB < base ∧ sm < base ∧ base ≤ w.heap.size
  le : j ≤ q.length

def Fr (sB sm base : Nat) (w w' : World) : Prop := Only (fun k => k = sB ∨ k = sm ∨ (base ≤ k ∧ ∃ cur, w.heap[k]? = some (.cells cur 110 (0, 0)))) w w'
theorem Fr.trans {sB sm base : Nat} {a b c : World} (h : Fr sB sm base a b) (k : Fr sB sm base b c) : Fr sB sm base a c :=
  ⟨k.os.trans h.os, k.tape.trans h.tape, k.output.trans h.output, Nat.le_trans h.size k.size, fun i hi hp => (k.block i (Nat.lt_of_lt_of_le hi h.size) (fun hq => hp (by
    rcases hq with e | e | ⟨hb, cur, hc⟩
    · exact Or.inl e
    · exact Or.inr (Or.inl e)
    · by_cases e1 : i = sB
      · exact Or.inl e1
      · by_cases e2 : i = sm
        · exact Or.inr (Or.inl e2)
        · refine Or.inr (Or.inr ⟨hb, cur, ?_⟩)
          by_cases e3 : ∃ cur, a.heap[i]? = some (.cells cur 110 (0, 0))
          · exact absurd (Or.inr (Or.inr ⟨hb, e3⟩)) hp
          · rw [← h.block i hi (by rintro (e | e | e); exact e1 e; exact e2 e; exact e3 e.2)]
            exact hc))).trans (h.block i hi hp)⟩
theorem Fr.below {sB sm base : Nat} {a b : World} (h : Below a.heap.size a b) : Fr sB sm base a b := Only.below h
theorem Fr.refl (sB sm base : Nat) (w : World) : Fr sB sm base w w := Only.refl _ _
theorem Fr.cells {sB sm base : Nat} {a b : World} (h : Fr sB sm base a b) {k : Nat} {cs : Array Value} {t : TypeId} {z : Nat × Nat} (hk : a.heap[k]? = some (.cells cs t z)) (h1 : t ≠ 110) (h2 : k ≠ sB) (h3 : k ≠ sm) : b.heap[k]? = some (.cells cs t z) := by
  rw [h.block k (blk_lt hk) (fun hp => ?_)]
  · exact hk
  · rcases hp with e | e | ⟨_, cur, hc⟩
    · exact h2 e
    · exact h3 e
    · rw [hk] at hc
      cases hc
      exact h1 rfl
theorem Fr.tbs {sB sm base n : Nat} {a b : World} {T M : Nat → Nat} {at_ : Nat → Int} {L : Nat → Nat} {K X : Nat → Nat → V} (h : Fr sB sm base a b) (ht : Tbs a n T M at_ L K X) (hs : ∃ cs, a.heap[sB]? = some (.cells cs 105 (0, 0))) (hm : ∀ j, j < n → M j ≠ sm) (hmm : ∃ es clk, a.heap[sm]? = some (.map es clk)) : Tbs b n T M at_ L K X := by
  obtain ⟨cs, hs⟩ := hs
  obtain ⟨es, clk, hmm⟩ := hmm
  have hT : ∀ j, j < n → b.heap[T j]? = a.heap[T j]? := fun j hj => by
    obtain ⟨ord, a1, _⟩ := ht.tab j hj
    refine h.block _ (blk_lt a1) (fun hp => ?_)
    unfold TabB at a1
    rcases hp with e | e | ⟨_, cur, hc⟩
    · rw [e, hs] at a1; cases a1
    · rw [e, hmm] at a1; cases a1
    · rw [hc] at a1; cases a1
  have hMp : ∀ j, j < n → b.heap[M j]? = a.heap[M j]? := fun j hj => by
    obtain ⟨l, a1, _⟩ := ht.map j hj
    refine h.block _ a1.lt (fun hp => ?_)
    obtain ⟨es', clk', hb, _⟩ := a1
    rcases hp with e | e | ⟨_, cur, hc⟩
    · rw [e, hs] at hb; cases hb
    · exact hm j hj e
    · rw [hc] at hb; cases hb
  refine ⟨fun j hj => ?_, fun j hj => ?_, ht.inj, ht.noneB hMp⟩
  · obtain ⟨ord, a1, a2⟩ := ht.tab j hj
    refine ⟨ord, (hT j hj).trans a1, Only.ownsB h a2 (fun g hg hp => ?_)⟩
    obtain ⟨_, cur, hc⟩ := owns_type a2 hg
    rcases hp with e | e | ⟨_, cur', hc'⟩
    · rw [e, hs] at hc; cases hc
    · rw [e, hmm] at hc; cases hc
    · rw [hc'] at hc; cases hc
  · obtain ⟨l, a1, a2⟩ := ht.map j hj
    exact ⟨l, a1.same (hMp j hj), a2⟩

theorem Sea.below {w w' : World} {n m : Nat} {T : Nat → Nat} {sB sm cb base : Nat} {rv tv : Value} {j : Nat} {q : List Aw.E} {SB : Nat → Nat} (h : Sea w n m T sB sm cb base rv tv j q SB) (hb : Below w.heap.size w w') : Sea w' n m T sB sm cb base rv tv j q SB := by
  obtain ⟨wv, h1, h2⟩ := h.blk
  refine ⟨⟨wv, blkB h1 hb, h2.same (fun g hg => ?_)⟩, h.sts.below hb, h.seen.same (hb.block _ h.seen.lt), ⟨h.lo.1, h.lo.2.1, Nat.le_trans h.lo.2.2 hb.size⟩, h.le⟩
  obtain ⟨cur, hc⟩ := h2.own hg
  exact hb.block _ (blk_lt hc)

end Go.Proofs.YtgflalfiopnmnaaGreatDoor
