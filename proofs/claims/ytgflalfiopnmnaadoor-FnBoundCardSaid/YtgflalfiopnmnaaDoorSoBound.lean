import Derived.Test.YtgflalfiopnmnaaDoorSoSort
import Derived.Test.YtgflalfiopnmnaaDoorSoUp
import Derived.Test.YtgflalfiopnmnaaDoorSoOm
import Derived.Test.YtgflalfiopnmnaaDoorMmImpl
namespace Go.Proofs.YtgflalfiopnmnaaDoor
open Go.RowKit Rk So Mm

theorem Fill.skip {w wr : World} {t L k : Nat} {z : Value} {f : Nat → Value} (h : Fill w wr t L k z f) (e : f k = z) : Fill w wr t L (k + 1) z f :=
  ⟨h.size, h.bel, h.row.congr fun i _ => by
    by_cases e1 : i = k
    · subst e1; simp [e]
    · by_cases hlt : i < k
      · rw [if_pos hlt, if_pos (by omega)]
      · rw [if_neg hlt, if_neg (by omega)]⟩

theorem wbyte_any (A : Option Addr) (L C b off : Nat) (x : Nat) (w : World) (hL : L ≤ 1048576) (hA : 0 < L → A = some ⟨b, off, none⟩ ∧ w.cell? ⟨b, off, none⟩ = some (.int .u8 x)) (hx : x ≤ 255) :
    Calls Tryd.prog 14 #[.slice A L C, .int .i64 0] w fun e w' => (∃ y : Nat, y ≤ 255 ∧ e = .returned (.int .i64 y)) ∧ w' = w := by
  by_cases h0 : L = 0
  · subst h0
    go_enter Tryd.func14, Tryd.ntmps14
    go_wp2
    go_ret
    exact ⟨⟨0, by omega, rfl⟩, rfl⟩
  · obtain ⟨rfl, hc⟩ := hA (by omega)
    have hne : ((L : Int) == 0) = false := by simp; omega
    have hpos : (0 : Int) < (L : Int) := by omega
    have hnz : ¬ (L : Int) = 0 := by omega
    go_enter Tryd.func14, Tryd.ntmps14
    go_wp2
    go_ret
    exact ⟨⟨x, hx, rfl⟩, rfl⟩

theorem keep3 {w2 w w' : World} {D : Nat} {a b c : Value} (h : w.cell? ⟨D, 0, none⟩ = some a ∧ w.cell? ⟨D, 1, none⟩ = some b ∧ w.cell? ⟨D, 2, none⟩ = some c ∧ Below w2.heap.size w2 w) (hb : Below w.heap.size w w') : w'.cell? ⟨D, 0, none⟩ = some a ∧ w'.cell? ⟨D, 1, none⟩ = some b ∧ w'.cell? ⟨D, 2, none⟩ = some c ∧ Below w2.heap.size w2 w' :=
  ⟨(hb.cell (p := ⟨D, 0, none⟩) (World.block_lt_of_cell? _ _ h.1)).trans h.1, (hb.cell (p := ⟨D, 1, none⟩) (World.block_lt_of_cell? _ _ h.2.1)).trans h.2.1, (hb.cell (p := ⟨D, 2, none⟩) (World.block_lt_of_cell? _ _ h.2.2.1)).trans h.2.2.1, h.2.2.2.trans (hb.mono h.2.2.2.size)⟩

/-- The cells of an owned row of items. -/
theorem owns_at {w : World} {b : Nat} {v : Value} {n : Nat} {o : List Nat} (h : w.ownsRow b 3 1 v n (ints o)) {i x : Nat} (hx : o[i]? = some x) : ∃ g cap, v = .slice (some ⟨g, 0, none⟩) n cap ∧ w.cell? ⟨g, i, none⟩ = some (.int .i64 x) := by
  have hj : (ints o)[i]? = some (.int .i64 (x : Nat)) := by simp [ints, hx]
  rcases h.2 with ⟨_, rfl⟩ | ⟨g, cap, cur, e, _, hh, _, _, _, ht⟩
  · have := h.1
    have hl := (List.getElem?_eq_some_iff.1 hx).1
    simp [ints] at this
    simp [this] at hl
  · refine ⟨g, cap, e, ?_⟩
    have : (cur.toList.take (n * 1))[i]? = some (.int .i64 (x : Nat)) := by rw [ht]; exact hj
    rw [List.getElem?_take] at this
    split at this
    · simp [World.cell?, hh]
      simpa using this
    · cases this

theorem upSq (n : Nat) (h : n ≤ 60) : Sq n (fun _ => n) up := ⟨by omega, fun r _ => ⟨rfl, fun c _ => by unfold up; split <;> omega⟩⟩

set_option maxHeartbeats 4000000 in
theorem boundLaw (A0 : Option Addr) (L0 C0 b0 off0 x0 : Nat) (ea : Addr) (w : World) (hA0 : 0 < L0 → A0 = some ⟨b0, off0, none⟩ ∧ w.cell? ⟨b0, off0, none⟩ = some (.int .u8 x0)) (hx0 : x0 ≤ 255) (hL0 : L0 ≤ 9223372036854775807)
    (HE : Hid (w.cell? ⟨0, 0, none⟩ = some (.iface 74 (.pointer (some ea))))) :
    Calls Tryd.prog 4 #[.slice A0 L0 C0] w fun e w' => e = .returned (.bool true) ∧ Below w.heap.size w w' := by
  by_cases hbig : 1048576 < L0
  · go_enter Tryd.func4, Tryd.ntmps4
    go_wp2
    go_ret
    exact ⟨rfl, Below.refl _ _⟩
  · obtain ⟨i0, hi, hz0, hz1, hz2⟩ := info_parts Tryd.info25
    have hw0 : 0 < w.heap.size := by simpa using World.block_lt_of_cell? _ _ HE.out
    go_enter Tryd.func4, Tryd.ntmps4
    go_wp2_with fail
    refine (wbyte_any A0 L0 C0 b0 off0 x0 w (by omega) hA0 hx0).mono ?_
    rintro e w1 ⟨⟨x, hx, rfl⟩, hw1⟩
    subst hw1
    clear hA0 hx0 hL0
    obtain ⟨n, hn⟩ : ∃ n : Nat, 2 + (x : Int) % 59 = (n : Int) := ⟨2 + x % 59, by omega⟩
    have hn2 : 2 ≤ n := by omega
    have hn60 : n ≤ 60 := by omega
    have hmk := run_make_row' (P := Tryd.prog) 25 3 (.int .i64 0) 8 Tryd.underlying25 Tryd.info3 rfl .i64 .i64 n (by omega) (by omega)
    go_wp2
    clear hn
    go_loopw [4, 5] (fun s4 i wr => ∃ (k : Nat) (B : Nat → Nat) (v : Value), k ≤ n ∧ v = s4 ∧ i = .int .i64 k ∧ Hid (OM wr w1.heap.size v k (fun _ => n) B up) ∧ Hid (Below w1.heap.size w1 wr)) (fun _ i _ => n - (intOf i).toNat)
    case atStart => exact ⟨0, fun _ => 0, _, Nat.zero_le _, rfl, rfl, OM.nil _ _ _ _ _, Below.refl _ _⟩
    case round =>
      obtain ⟨k, B, v, hk, rfl, rfl, HO, HB⟩ := hrel
      by_cases hlt : k < n
      · obtain ⟨wo, rfl⟩ : ∃ wo : World, wo = wr := ⟨_, rfl⟩
        go_wp2
        go_loopw [27] (fun i wr => ∃ c : Nat, c ≤ n ∧ i = .int .i64 c ∧ Hid (Fill wo wr 3 n c (.int .i64 0) (fun c => .int .i64 (up k c)))) (fun i _ => n - (intOf i).toNat)
        case atStart => exact ⟨0, Nat.zero_le _, rfl, Fill.start _ _ _ _ _⟩
        case round =>
          obtain ⟨c, hc, rfl, HF⟩ := hrel
          by_cases hcl : c < n
          · by_cases hkc : k < c
            · have ho := HF.out.cellAt hcl
              have hz := HF.out.row.frozen c
              have hst := HF.out.step
              have hu : up k c = 1 := by unfold up; rw [if_pos hkc]
              rw [hu] at hst
              have HN : Hid _ := hst
              clear hst HF hu hmk
              go_wp2
              go_roundw
              case rel => exact ⟨c + 1, by omega, by go_num, HN.out⟩
              case measure => simp [intOf]; omega
            · have HN : Hid _ := HF.out.skip (by show Value.int .i64 (up k c) = _; unfold up; rw [if_neg hkc])
              clear HF hmk
              go_wp2
              go_roundw
              case rel => exact ⟨c + 1, by omega, by go_num, HN.out⟩
              case measure => simp [intOf]; omega
          · obtain rfl : c = n := by omega
            have HO2 : Hid (OM wr w1.heap.size v k (fun _ => c) B up) := HO.out.below HF.out.bel
            have HR : Hid (wr.rowIs wo.heap.size 3 c (fun j => .int .i64 (up k j))) := HF.out.done
            have hsz := HB.out.size
            have hsz2 := HF.out.bel.size
            clear hmk
            go_wp2_with (at_builtin; refine wpList_append_lies _ (by rfl) (.tmp 37) (.tmp 39) 23 (by rfl) w1.heap.size 25 i0 (.slice none 0 0) 1 24 Tryd.underlying23 hi hz0 hz1 hz2 (by rfl) (by omega) v k _ (by rfl) (HO2.out.own.alloc _) ⟨wr.heap.size, 0, none⟩ 1 1 [.slice (some ⟨wo.heap.size, 0, none⟩) c c] (by rfl) (by rfl) (World.news_of_block (heap_alloc_new wr _)) ?c2 (by omega) ?c3 ?c4 ?c5 (wr.heap.size + 1) (by simp) ?_)
            case c2 => first | rfl | (intro u hu; simp at hu; subst hu; rfl)
            case c3 => unfold maxLen; omega
            case c4 => omega
            case c5 => first | omega | (simp; omega)
            intro g cap w3 hown3 hgrow3 hat hlt3
            obtain ⟨hO3, hB3⟩ := HO2.out.more HR.out (by omega) _ hown3 hgrow3
            have HO3 : Hid (OM w3 w1.heap.size (.slice (some ⟨g, 0, none⟩) (k + 1) cap) (k + 1) (fun _ => c) (fun j => if j = k then wo.heap.size else B j) up) := hO3.congr (fun j _ => by simp) (fun j _ c' _ => by
              by_cases e : j = k
              · subst e; simp
              · simp [e])
            have HB3 : Hid (Below w1.heap.size w1 w3) := (HB.out.trans (HF.out.bel.mono (by omega))).trans hB3
            clear hown3 hgrow3 hat hlt3 hO3 hB3 HO2 HR HF
            go_wp2
            go_roundw
            case rel => exact ⟨k + 1, _, _, by omega, rfl, by go_num, HO3.out, HB3.out⟩
            case measure => simp [intOf]; omega
      · obtain rfl : k = n := by omega
        obtain ⟨ga, cp, gb, rfl, hga, hM⟩ := HO.out.mat
        have HE2 : Hid (wr.cell? ⟨0, 0, none⟩ = some (.iface 74 (.pointer (some ea)))) := (HB.out.cell (p := ⟨0, 0, none⟩) hw0).trans HE.out
        have hso := implSort_any wr ga gb 0 k cp _ (fun _ => k) _ B _ up ea hga (by omega) (fun _ _ => by omega) hM HE2
        clear hM HO hmk
        go_wp2_with fail
        refine hso.mono ?_
        clear hso
        rintro e w2 ⟨code, o, q, ov, av, HOut, rfl, hR⟩
        obtain ⟨q1, hs1, hs2, hs3⟩ := sorted_up hn60
        obtain ⟨rfl, rfl, rfl⟩ := HOut.out.same (Or.inr (Or.inl ⟨upSq k hn60, hs1, rfl⟩))
        obtain ⟨oo, oc, rfl⟩ := owns_form hR.ord
        obtain ⟨ao, ac, rfl⟩ := owns_form hR.ask
        rw [List.length_range] at hR
        obtain ⟨U, HU⟩ : ∃ U, Hid (outer k 1 0 = U) := ⟨_, rfl⟩
        rw [HU.out] at hs3
        have HR : Hid _ := hR
        have HB2 : Hid (Below w1.heap.size w1 w2) := HB.out.trans (hR.bel.mono HB.out.size)
        simp only [List.length_range]
        clear hR HOut hs1
        go_wp2_with fail
        obtain ⟨wd, hwd⟩ : ∃ wd, w2.alloc (.cells #[.int .i64 0, .slice oo k oc, .slice ao q.length ac] 28) = wd := ⟨_, rfl⟩
        have hd : wd.cell? ⟨w2.heap.size, 0, none⟩ = some (.int .i64 0) ∧ wd.cell? ⟨w2.heap.size, 1, none⟩ = some (.slice oo k oc) ∧ wd.cell? ⟨w2.heap.size, 2, none⟩ = some (.slice ao q.length ac) := by
          have hb := heap_alloc_new w2 (.cells #[.int .i64 0, .slice oo k oc, .slice ao q.length ac] 28)
          rw [hwd] at hb
          simp [World.cell?, hb]
        have HBd : Hid (Below w2.heap.size w2 wd) := by rw [← hwd]; exact (Below.refl _ _).alloc (Nat.le_refl _) _
        rw [hwd]
        clear hwd
        obtain ⟨d0, d1, d2⟩ := hd
        have hS0 : wd.drew.cell? ⟨w2.heap.size, 0, none⟩ = some (.int .i64 0) ∧ wd.drew.cell? ⟨w2.heap.size, 1, none⟩ = some (.slice oo k oc) ∧ wd.drew.cell? ⟨w2.heap.size, 2, none⟩ = some (.slice ao q.length ac) ∧ Below w2.heap.size w2 wd.drew := ⟨d0, d1, d2, HBd.out.drew⟩
        have hm1 : ∀ wx, Calls Tryd.prog 12 #[.int .i64 k] wx fun e w' => e = .returned (.int .i64 (U : Nat)) ∧ Below wx.heap.size wx w' := fun wx => by
          have := implMost_yes k (by omega) wx
          rwa [HU.out] at this
        have hm2 : ∀ wx, Calls Tryd.prog 15 #[.int .i64 k] wx fun e w' => e = .returned (.int .i64 (U : Nat)) ∧ w' = wx := fun wx => by
          have := specMost_yes k (by omega) wx
          rwa [HU.out] at this
        have hwk : IntKind.i64.wrap ((k : Int) - 1) = (k : Int) - 1 := by rw [IntKind.wrap_i64]; omega
        have g1 : decide ((q.length : Int) < (k : Int) - 1) = false := by simp; omega
        have g2 : decide (U < q.length) = false := by simp; omega
        go_region_held3 (fun w' => w'.cell? ⟨w2.heap.size, 0, none⟩ = some (.int .i64 0) ∧ w'.cell? ⟨w2.heap.size, 1, none⟩ = some (.slice oo k oc) ∧ w'.cell? ⟨w2.heap.size, 2, none⟩ = some (.slice ao q.length ac) ∧ Below w2.heap.size w2 w') (first | assumption | exact keep3 (by assumption) hb3)
          (first | (go_at_call 12; refine (hm1 _).mono ?_; rintro e w3 ⟨rfl, hb3⟩) | (go_at_call 15; refine (hm2 _).mono ?_; rintro e w4 ⟨rfl, rfl⟩))
        rename_i hS4
        obtain ⟨_, e1, _, hB4⟩ := hS4
        have HB4 : Hid (Below w1.heap.size w1 w4) := HB2.out.trans (hB4.mono HB2.out.size)
        have HC : Hid (∀ i, i < k → ∃ g cap, Value.slice oo k oc = .slice (some ⟨g, 0, none⟩) k cap ∧ w4.cell? ⟨g, i, none⟩ = some (.int .i64 i)) := fun i hi' => by
          obtain ⟨g, cap, h1, h2⟩ := owns_at (i := i) (x := i) HR.out.ord (by simp [hi'])
          exact ⟨g, cap, by simpa using h1, (hB4.cell (p := ⟨g, i, none⟩) (World.block_lt_of_cell? _ _ h2)).trans h2⟩
        clear hB4 hb3 d0 d1 d2 hS0 hm1 hm2 g1 g2 hwk HBd HR hs2 hs3
        go_wp2
        go_loop [79] (fun t => ∃ i : Nat, i ≤ k ∧ t = .int .i64 i) (fun t => k - (intOf t).toNat)
        case atStart => exact ⟨0, Nat.zero_le _, rfl⟩
        case round =>
          obtain ⟨i, hik, rfl⟩ := hrel
          by_cases hil : i < k
          · obtain ⟨g, cap, h1, h2⟩ := HC.out i hil
            cases h1
            go_wp2
            go_round
            case rel => exact ⟨i + 1, by omega, by go_num⟩
            case measure => simp [intOf]; omega
          · go_wp2_with fail
            refine (implMost_no (-1) (Or.inl (by omega)) _).mono ?_
            rintro e w5 ⟨rfl, hw5⟩
            subst hw5
            go_wp2_with fail
            refine (implMost_no 201 (Or.inr (by omega)) _).mono ?_
            rintro e w6 ⟨rfl, hw6⟩
            subst hw6
            go_wp2
            go_ret
            exact ⟨rfl, HB4.out⟩

end Go.Proofs.YtgflalfiopnmnaaDoor
