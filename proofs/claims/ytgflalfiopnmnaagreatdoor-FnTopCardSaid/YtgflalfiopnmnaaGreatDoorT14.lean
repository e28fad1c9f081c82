import Derived.Test.YtgflalfiopnmnaaGreatDoorT0
import Derived.Shelf.Strconv.Itoa4
import Derived.Test.YtgflalfiopnmnaaGreatDoorVlAs
import Derived.Test.YtgflalfiopnmnaaGreatDoorT10
import Derived.Lib.AppendIntMem
import Derived.Test.YtgflalfiopnmnaaGreatDoorT3
import Derived.Test.YtgflalfiopnmnaaGreatDoorT13
import Derived.Laws.EntriesVeiled
namespace Go.Proofs.YtgflalfiopnmnaaGreatDoor
open Go.Shelf

def Tryz.dec_ren : Go.Shelf.Ren := ⟨fun | 129 => 146 | 171 => 92 | 173 => 95 | 243 => 125 | 246 => 127 | 283 => 151 | 284 => 152 | 285 => 153 | 286 => 154 | 317 => 166 | 318 => 167 | 319 => 168 | 320 => 169 | 337 => 175 | 338 => 176 | n => n, fun | 0 => 0 | 2 => 2 | 3 => 3 | 4 => 4 | 5 => 5 | 9 => 9 | 20 => 20 | 37 => 22 | 46 => 210 | 51 => 253 | 53 => 49 | 171 => 260 | 173 => 262 | 212 => 278 | 213 => 279 | 232 => 291 | 233 => 292 | n => n, fun | 17 => 1 | 18 => 2 | 19 => 3 | n => n⟩
theorem Tryz.lays171 : LaysM.n171 Tryz.prog Tryz.dec_ren := {
  mixed := by kernel_rfl
  f129 := Tryz.func146.trans (congrArg some (by kernel_rfl))
  f171 := Tryz.func92.trans (congrArg some (by kernel_rfl))
  f243 := Tryz.func125.trans (congrArg some (by kernel_rfl))
  f246 := Tryz.func127.trans (congrArg some (by kernel_rfl))
  f283 := Tryz.func151.trans (congrArg some (by kernel_rfl))
  f284 := Tryz.func152.trans (congrArg some (by kernel_rfl))
  f285 := Tryz.func153.trans (congrArg some (by kernel_rfl))
  f286 := Tryz.func154.trans (congrArg some (by kernel_rfl))
  f317 := Tryz.func166.trans (congrArg some (by kernel_rfl))
  f318 := Tryz.func167.trans (congrArg some (by kernel_rfl))
  f319 := Tryz.func168.trans (congrArg some (by kernel_rfl))
  f320 := Tryz.func169.trans (congrArg some (by kernel_rfl))
  f337 := Tryz.func175.trans (congrArg some (by kernel_rfl))
  f338 := Tryz.func176.trans (congrArg some (by kernel_rfl))
  t0 := Tryz.underlying0
  a0 := Tryz.isAgg0
  z0 := Tryz.sizeOf0
  v0 := Tryz.zeroValue0
  t2 := Tryz.underlying2
  a2 := Tryz.isAgg2
  z2 := Tryz.sizeOf2
  v2 := Tryz.zeroValue2
  t3 := Tryz.underlying3
  a3 := Tryz.isAgg3
  z3 := Tryz.sizeOf3
  v3 := Tryz.zeroValue3
  t4 := Tryz.underlying4
  a4 := Tryz.isAgg4
  z4 := Tryz.sizeOf4
  v4 := Tryz.zeroValue4
  t5 := Tryz.underlying5
  a5 := Tryz.isAgg5
  z5 := Tryz.sizeOf5
  v5 := Tryz.zeroValue5
  t9 := Tryz.underlying9
  a9 := Tryz.isAgg9
  z9 := Tryz.sizeOf9
  v9 := Tryz.zeroValue9
  t20 := Tryz.underlying20
  a20 := Tryz.isAgg20
  z20 := Tryz.sizeOf20
  v20 := Tryz.zeroValue20
  t37 := Tryz.underlying22
  a37 := Tryz.isAgg22
  z37 := Tryz.sizeOf22
  v37 := Tryz.zeroValue22
  t46 := Tryz.underlying210
  a46 := Tryz.isAgg210
  z46 := Tryz.sizeOf210
  v46 := Tryz.zeroValue210
  t51 := Tryz.underlying253
  a51 := Tryz.isAgg253
  z51 := Tryz.sizeOf253
  v51 := Tryz.zeroValue253
  t53 := Tryz.underlying49
  a53 := Tryz.isAgg49
  z53 := Tryz.sizeOf49
  v53 := Tryz.zeroValue49
  t171 := Tryz.underlying260
  a171 := Tryz.isAgg260
  z171 := Tryz.sizeOf260
  v171 := Tryz.zeroValue260
  t173 := Tryz.underlying262
  a173 := Tryz.isAgg262
  z173 := Tryz.sizeOf262
  v173 := Tryz.zeroValue262
  t212 := Tryz.underlying278
  a212 := Tryz.isAgg278
  z212 := Tryz.sizeOf278
  v212 := Tryz.zeroValue278
  t213 := Tryz.underlying279
  a213 := Tryz.isAgg279
  z213 := Tryz.sizeOf279
  t232 := Tryz.underlying291
  a232 := Tryz.isAgg291
  z232 := Tryz.sizeOf291
  v232 := Tryz.zeroValue291
  t233 := Tryz.underlying292
  a233 := Tryz.isAgg292
  z233 := Tryz.sizeOf292
  v233 := Tryz.zeroValue292
  g17 := by kernel_rfl
  g18 := by kernel_rfl
  g19 := by kernel_rfl
  i0 := by kernel_rfl
  i2 := by kernel_rfl
  i3 := by kernel_rfl
  i4 := by kernel_rfl
  i5 := by kernel_rfl
  i9 := by kernel_rfl
  i20 := by kernel_rfl
  i37 := by kernel_rfl
  i46 := by kernel_rfl
  i51 := by kernel_rfl
  i53 := by kernel_rfl
  i171 := by kernel_rfl
  i173 := by kernel_rfl
  i212 := by kernel_rfl
  i232 := by kernel_rfl
  i233 := by kernel_rfl
  m17 := by kernel_rfl
  m18 := by kernel_rfl
  m19 := by kernel_rfl
}
theorem Tryz.lays173 : LaysM.n173 Tryz.prog Tryz.dec_ren := {
  mixed := by kernel_rfl
  f129 := Tryz.func146.trans (congrArg some (by kernel_rfl))
  f173 := Tryz.func95.trans (congrArg some (by kernel_rfl))
  f246 := Tryz.func127.trans (congrArg some (by kernel_rfl))
  f283 := Tryz.func151.trans (congrArg some (by kernel_rfl))
  f284 := Tryz.func152.trans (congrArg some (by kernel_rfl))
  f285 := Tryz.func153.trans (congrArg some (by kernel_rfl))
  f286 := Tryz.func154.trans (congrArg some (by kernel_rfl))
  f317 := Tryz.func166.trans (congrArg some (by kernel_rfl))
  f318 := Tryz.func167.trans (congrArg some (by kernel_rfl))
  f319 := Tryz.func168.trans (congrArg some (by kernel_rfl))
  f320 := Tryz.func169.trans (congrArg some (by kernel_rfl))
  f337 := Tryz.func175.trans (congrArg some (by kernel_rfl))
  f338 := Tryz.func176.trans (congrArg some (by kernel_rfl))
  t0 := Tryz.underlying0
  a0 := Tryz.isAgg0
  z0 := Tryz.sizeOf0
  v0 := Tryz.zeroValue0
  t2 := Tryz.underlying2
  a2 := Tryz.isAgg2
  z2 := Tryz.sizeOf2
  v2 := Tryz.zeroValue2
  t3 := Tryz.underlying3
  a3 := Tryz.isAgg3
  z3 := Tryz.sizeOf3
  v3 := Tryz.zeroValue3
  t4 := Tryz.underlying4
  a4 := Tryz.isAgg4
  z4 := Tryz.sizeOf4
  v4 := Tryz.zeroValue4
  t5 := Tryz.underlying5
  a5 := Tryz.isAgg5
  z5 := Tryz.sizeOf5
  v5 := Tryz.zeroValue5
  t9 := Tryz.underlying9
  a9 := Tryz.isAgg9
  z9 := Tryz.sizeOf9
  v9 := Tryz.zeroValue9
  t20 := Tryz.underlying20
  a20 := Tryz.isAgg20
  z20 := Tryz.sizeOf20
  v20 := Tryz.zeroValue20
  t37 := Tryz.underlying22
  a37 := Tryz.isAgg22
  z37 := Tryz.sizeOf22
  v37 := Tryz.zeroValue22
  t46 := Tryz.underlying210
  a46 := Tryz.isAgg210
  z46 := Tryz.sizeOf210
  v46 := Tryz.zeroValue210
  t51 := Tryz.underlying253
  a51 := Tryz.isAgg253
  z51 := Tryz.sizeOf253
  v51 := Tryz.zeroValue253
  t53 := Tryz.underlying49
  a53 := Tryz.isAgg49
  z53 := Tryz.sizeOf49
  v53 := Tryz.zeroValue49
  t171 := Tryz.underlying260
  a171 := Tryz.isAgg260
  z171 := Tryz.sizeOf260
  v171 := Tryz.zeroValue260
  t173 := Tryz.underlying262
  a173 := Tryz.isAgg262
  z173 := Tryz.sizeOf262
  v173 := Tryz.zeroValue262
  t212 := Tryz.underlying278
  a212 := Tryz.isAgg278
  z212 := Tryz.sizeOf278
  v212 := Tryz.zeroValue278
  t213 := Tryz.underlying279
  a213 := Tryz.isAgg279
  z213 := Tryz.sizeOf279
  t232 := Tryz.underlying291
  a232 := Tryz.isAgg291
  z232 := Tryz.sizeOf291
  v232 := Tryz.zeroValue291
  t233 := Tryz.underlying292
  a233 := Tryz.isAgg292
  z233 := Tryz.sizeOf292
  v233 := Tryz.zeroValue292
  g17 := by kernel_rfl
  g18 := by kernel_rfl
  g19 := by kernel_rfl
  i0 := by kernel_rfl
  i2 := by kernel_rfl
  i3 := by kernel_rfl
  i4 := by kernel_rfl
  i5 := by kernel_rfl
  i9 := by kernel_rfl
  i20 := by kernel_rfl
  i37 := by kernel_rfl
  i46 := by kernel_rfl
  i51 := by kernel_rfl
  i53 := by kernel_rfl
  i171 := by kernel_rfl
  i173 := by kernel_rfl
  i212 := by kernel_rfl
  i232 := by kernel_rfl
  i233 := by kernel_rfl
  m17 := by kernel_rfl
  m18 := by kernel_rfl
  m19 := by kernel_rfl
}

theorem itoa_any (n : Int) (h0 : -9223372036854775808 ≤ n) (h1 : n ≤ 9223372036854775807) (w : World) (htab : Lib.TabIs Tryz.prog w "internal/strconv.uint64pow10" .u64 Lib.pow10Tab) :
    Calls Tryz.prog 92 #[.int .i64 n] w fun e w' => e = .returned (.string ⟨(Lib.itoa n).toArray⟩) ∧ ∃ k os, w' = Go.Sort.grow (w.drewN k) os := Any.strconv_Itoa Tryz.lays171 n h0 h1 w htab
theorem formatInt_any (n : Int) (h0 : -9223372036854775808 ≤ n) (h1 : n ≤ 9223372036854775807) (w : World) (htab : Lib.TabIs Tryz.prog w "internal/strconv.uint64pow10" .u64 Lib.pow10Tab) :
    Calls Tryz.prog 95 #[.int .i64 n, .int .i64 10] w fun e w' => e = .returned (.string ⟨(Lib.itoa n).toArray⟩) ∧ ∃ k os, w' = Go.Sort.grow (w.drewN k) os := Any.strconv_FormatInt_10 Tryz.lays173 n h0 h1 w htab

end Go.Proofs.YtgflalfiopnmnaaGreatDoor

namespace Go.Proofs.YtgflalfiopnmnaaGreatDoor
open Go.RowKit Vl

def Tab (w : World) : Prop := ∀ w', Below w.heap.size w w' → Lib.TabIs Tryz.prog w' "internal/strconv.uint64pow10" .u64 Lib.pow10Tab
theorem Tab.below {w w' : World} (h : Tab w) (hb : Below w.heap.size w w') : Tab w' := fun w2 h2 => h w2 (hb.trans (h2.mono hb.size))
theorem Tab.base {w w' : World} {n : Nat} (h : ∀ w', Below n w w' → Lib.TabIs Tryz.prog w' "internal/strconv.uint64pow10" .u64 Lib.pow10Tab) (hn : n ≤ w'.heap.size) (hb : Below n w w') : Tab w' := fun w2 h2 => h w2 (hb.trans (h2.mono hn))

theorem putL (WB QM LM base : Nat) (buf : Value) (bs : List UInt8) (l : List ByteArray) (w w3 : World) (PB m : Nat) (hPB : w3.heap.size = PB) (hm : l.length = m) (hm1 : m ≤ 1000) (hB : WB < base) (hbw : base ≤ w.heap.size) (hlen : bs.length + (catS l).length ≤ 140737488355328)
    (H : Hid (WrS w WB QM LM base buf bs)) (hb : Below w.heap.size w w3) :
    Calls Tryz.prog 91 #[.pointer (some ⟨WB, 0, none⟩), .slice (some ⟨PB, 0, none⟩) m m] (w3.alloc (.cells (l.map Value.string).toArray 9)) fun e w' => e = .returned (.tuple #[]) ∧ ∃ buf', WrS w' WB QM LM base buf' (bs ++ catS l) ∧ FrV WB WB buf buf' w w' := by
  subst hPB
  have hs := hb.size
  have hb2 : Below w.heap.size w (w3.alloc (.cells (l.map Value.string).toArray 9)) := hb.alloc hs _
  refine (wput_any WB QM LM base buf bs l w3.heap.size m m _ hm hB (by simp; omega) hlen hm1 (heap_alloc_new w3 _) (by omega) (H.out.below hb2)).mono ?_
  rintro e w' ⟨rfl, b', h1, h2⟩
  exact ⟨rfl, b', h1, (FrV.first hb2).trans h2⟩

theorem tab_grow {w : World} {k : Nat} {os : Array Obj} : Below w.heap.size w (Go.Sort.grow (w.drewN k) os) := Lib.below_grow _ w (Nat.le_refl _) k os

set_option maxHeartbeats 2000000 in
set_option maxRecDepth 100000 in
theorem wplain_any (WB QM LM base : Nat) (buf : Value) (bs : List UInt8) (v : V) (w : World) (hB : WB < base) (hbw : base ≤ w.heap.size) (hlen : bs.length ≤ 1000000000) (hk : v.k = 0 ∨ v.k = 1 ∨ v.k = 2 ∨ v.k = 3) (hv : shortV v) (HT : Hid (Tab w))
    (H : Hid (WrS w WB QM LM base buf bs)) :
    Calls Tryz.prog 55 #[.pointer (some ⟨WB, 0, none⟩), .agg #[.int .i64 v.k, .int .i64 v.n, .string v.s, .int .i64 v.a]] w fun e w' => e = .returned (.tuple #[]) ∧ ∃ buf', WrS w' WB QM LM base buf' (bs ++ plT v) ∧ FrV WB WB buf buf' w w' := by
  obtain ⟨k, m, s, a⟩ := v
  obtain ⟨hs, hm0, hm1⟩ := hv
  simp only at hs hm0 hm1 hk ⊢
  have hb1 : ∀ k, Below w.heap.size w (w.alloc (.cells #[.int .i64 k, .int .i64 m, .string s, .int .i64 a] 24)) := fun _ => below_alloc _ _
  rcases hk with rfl | rfl | rfl | rfl
  · have HE : Hid (plT ⟨0, m, s, a⟩ = catS [⟨#[110, 105, 108]⟩]) := rfl
    rw [HE.out]
    have hcall := putL WB QM LM base buf bs [⟨#[110, 105, 108]⟩] w _ (w.heap.size + 1) 1 (by simp) rfl (by omega) hB hbw (by rw [show (catS [⟨#[110, 105, 108]⟩]).length = 3 from rfl]; omega) H (hb1 0)
    clear hb1
    go_enter Tryz.func55, Tryz.ntmps55
    go_wp2_with (go_at_call 91; refine hcall.mono ?_; rintro e w' ⟨rfl, hh⟩)
    clear hcall
    have HH : Hid _ := hh
    clear hh
    go_end0
    exact ⟨rfl, HH.out⟩
  · by_cases h1 : m = 1
    · subst h1
      have HE : Hid (plT ⟨1, 1, s, a⟩ = catS [⟨#[116, 114, 117, 101]⟩]) := rfl
      rw [HE.out]
      have hcall := putL WB QM LM base buf bs [⟨#[116, 114, 117, 101]⟩] w _ (w.heap.size + 1) 1 (by simp) rfl (by omega) hB hbw (by rw [show (catS [⟨#[116, 114, 117, 101]⟩]).length = 4 from rfl]; omega) H (hb1 1)
      clear hb1
      go_enter Tryz.func55, Tryz.ntmps55
      go_wp2_with (first | (go_at_call 91; refine hcall.mono ?_; rintro e w' ⟨rfl, hh⟩) | go_in)
      clear hcall
      have HH : Hid _ := hh
      clear hh
      go_end0
      exact ⟨rfl, HH.out⟩
    · have HE : Hid (plT ⟨1, m, s, a⟩ = catS [⟨#[102, 97, 108, 115, 101]⟩]) := by
        show _ = _
        unfold plT
        rw [if_pos rfl, if_neg h1]
        rfl
      rw [HE.out]
      have hcall := putL WB QM LM base buf bs [⟨#[102, 97, 108, 115, 101]⟩] w _ (w.heap.size + 1) 1 (by simp) rfl (by omega) hB hbw (by rw [show (catS [⟨#[102, 97, 108, 115, 101]⟩]).length = 5 from rfl]; omega) H (hb1 1)
      have hne : (m == 1) = false := by simpa using h1
      clear hb1
      go_enter Tryz.func55, Tryz.ntmps55
      go_wp2_with (first | (go_at_call 91; refine hcall.mono ?_; rintro e w' ⟨rfl, hh⟩) | go_in)
      clear hcall
      have HH : Hid _ := hh
      clear hh
      go_end0
      exact ⟨rfl, HH.out⟩
  · have HE : Hid (plT ⟨2, m, s, a⟩ = catS [⟨(Lib.itoa m).toArray⟩]) := by
      show _ = _
      unfold plT
      simp [catS]
    rw [HE.out]
    have hfi := formatInt_any m hm0 hm1 _ (HT.out _ (hb1 2))
    have hsl : (Lib.itoa m).length ≤ 20 := itoa_len hm0 hm1
    have hsl2 : (catS [⟨(Lib.itoa m).toArray⟩]).length ≤ 20 := by simpa [catS] using hsl
    obtain ⟨str, hstr⟩ : ∃ str : ByteArray, ⟨(Lib.itoa m).toArray⟩ = str := ⟨_, rfl⟩
    rw [hstr] at hfi hsl2 ⊢
    have hcall : ∀ w3, Below w.heap.size w w3 → Calls Tryz.prog 91 #[.pointer (some ⟨WB, 0, none⟩), .slice (some ⟨w3.heap.size, 0, none⟩) 1 1] (w3.alloc (.cells #[.string str] 9)) fun e w' => e = .returned (.tuple #[]) ∧ ∃ buf', WrS w' WB QM LM base buf' (bs ++ catS [str]) ∧ FrV WB WB buf buf' w w' :=
      fun w3 hb => putL WB QM LM base buf bs [str] w w3 w3.heap.size 1 rfl rfl (by omega) hB hbw (by omega) H hb
    have HC : Hid _ := hcall
    clear hcall hsl hsl2 hstr
    have HB1 : Hid _ := hb1 2
    clear hb1
    go_enter Tryz.func55, Tryz.ntmps55
    go_wp2_with (go_at_call 95; refine hfi.mono ?_; rintro e w' ⟨rfl, hx⟩)
    have hb3 : Below w.heap.size w w' := by obtain ⟨q, os, hw'⟩ := hx; rw [hw']; exact HB1.out.trans (tab_grow.mono HB1.out.size)
    have hc := HC.out w' hb3
    clear HC hx hb3 hfi
    go_wp2_with (go_at_call 91; refine hc.mono ?_; rintro e w4 ⟨rfl, hh⟩)
    clear hc
    have HH : Hid _ := hh
    clear hh
    go_end0
    exact ⟨rfl, HH.out⟩
  · have HE : Hid (plT ⟨3, m, s, a⟩ = quT s) := rfl
    rw [HE.out]
    have hcall := quote_any WB QM LM base buf bs s _ hB (Nat.le_trans hbw (hb1 3).size) (by omega) hlen (H.out.below (hb1 3))
    have HB1 : Hid _ := hb1 3
    clear hb1
    go_enter Tryz.func55, Tryz.ntmps55
    go_wp2_with (go_at_call 96; refine hcall.mono ?_; rintro e w' ⟨rfl, b2, h1, h2⟩)
    clear hcall
    have HH : Hid _ := h1
    have HF : Hid _ := (FrV.first HB1.out).trans h2
    clear h1 h2
    go_end0
    exact ⟨rfl, b2, HH.out, HF.out⟩

end Go.Proofs.YtgflalfiopnmnaaGreatDoor

namespace Go.Proofs.YtgflalfiopnmnaaGreatDoor
open Go.RowKit Vl

abbrev fnCT (QM : Nat) : Value := .func (.func 52) #[.agg #[.map (some QM)]] #[]
abbrev fnCP (QM : Nat) : Value := .func (.func 53) #[.agg #[.map (some QM)]] #[]
abbrev fnWT (WB : Nat) : Value := .func (.func 54) #[.pointer (some ⟨WB, 0, none⟩)] #[]
abbrev fnWP (WB : Nat) : Value := .func (.func 55) #[.pointer (some ⟨WB, 0, none⟩)] #[]

set_option maxRecDepth 100000 in
theorem cVisitor_any (QM : Nat) (w : World) : Calls Tryz.prog 24 #[.agg #[.map (some QM)]] w fun e w' => e = .returned (.agg #[fnCT QM, fnCP QM]) ∧ Below w.heap.size w w' := by
  go_enter Tryz.func24, Tryz.ntmps24
  go_wp2
  refine bodyPost_ret (v := .agg #[fnCT QM, fnCP QM]) (by simp [results, Tryz.results24, go_sem]) rfl ⟨rfl, ?_⟩
  exact ((Below.refl _ _).alloc (Nat.le_refl _) _).alloc (by simp) _

set_option maxRecDepth 100000 in
theorem wVisitor_any (WB : Nat) (w : World) : Calls Tryz.prog 26 #[.pointer (some ⟨WB, 0, none⟩)] w fun e w' => e = .returned (.agg #[fnWT WB, fnWP WB]) ∧ Below w.heap.size w w' := by
  go_enter Tryz.func26, Tryz.ntmps26
  go_wp2
  refine bodyPost_ret (v := .agg #[fnWT WB, fnWP WB]) (by simp [results, Tryz.results26, go_sem]) rfl ⟨rfl, ?_⟩
  exact (Below.refl _ _).alloc (Nat.le_refl _) _

set_option maxRecDepth 100000 in
theorem cPlain_any (QM : Nat) (v : V) (w : World) : Calls Tryz.prog 53 #[.agg #[.map (some QM)], vAgg v] w fun e w' => e = .returned (.tuple #[]) ∧ Below w.heap.size w w' := by
  go_enter Tryz.func53, Tryz.ntmps53
  go_wp2
  go_end0
  exact ⟨rfl, ((Below.refl _ _).alloc (Nat.le_refl _) _).alloc (by simp) _⟩

set_option maxHeartbeats 1000000 in
set_option maxRecDepth 100000 in
theorem cVisit_tab (QM b : Nat) (w : World) (R : World → Prop) (hcall : Calls Tryz.prog 52 #[.agg #[.map (some QM)], ptr b] (w.alloc (.cells #[fnCT QM, fnCP QM] 66)) fun e w' => e = .returned (.tuple #[]) ∧ R w') :
    Calls Tryz.prog 25 #[.agg #[fnCT QM, fnCP QM], .iface 107 (ptr b)] w fun e w' => e = .returned (.tuple #[]) ∧ R w' := by
  have hta := assert_yes b
  go_enter Tryz.func25, Tryz.ntmps25
  go_wp2_with (go_at_call 52; refine hcall.mono ?_; rintro e w' ⟨rfl, hR⟩)
  have HR : Hid (R w') := hR
  clear hR hcall
  go_end0
  exact ⟨rfl, HR.out⟩

set_option maxHeartbeats 1000000 in
set_option maxRecDepth 100000 in
theorem cVisit_plain (QM : Nat) (n : Nat) (T : Nat → Nat) (at_ : Nat → Int) (v : V) (hv : isV n v = true) (h4 : v.k ≠ 4) (w : World) (R : World → Prop) (HT : Hid (∀ w', Below w.heap.size w w' → ∀ j, j < n → w'.cell? ⟨T j, 0, none⟩ = some (.int .i64 (at_ j))))
    (hcall : ∀ w1, Below w.heap.size w w1 → w.heap.size < w1.heap.size → Calls Tryz.prog 53 #[.agg #[.map (some QM)], vAgg v] w1 fun e w' => e = .returned (.tuple #[]) ∧ R w' ∧ w'.heap[w.heap.size]? = w1.heap[w.heap.size]?) :
    Calls Tryz.prog 25 #[.agg #[fnCT QM, fnCP QM], ifv T v] w fun e w' => e = .returned (.tuple #[]) ∧ R w' := by
  have hta := assert_no hv h4 T
  obtain ⟨xt, xy, F, hty, hmeth, hcf, hcl⟩ := as_at hv T at_
  have hE : atV at_ v = v := by unfold atV; rw [if_neg h4]
  rw [hE] at hcl
  rw [hty] at hta ⊢
  have HC : Hid (∀ w1, Below w.heap.size w w1 → w.heap.size < w1.heap.size → Calls Tryz.prog 53 #[.agg #[.map (some QM)], vAgg v] w1 fun e w' => e = .returned (.tuple #[]) ∧ R w' ∧ w'.heap[w.heap.size]? = w1.heap[w.heap.size]?) := hcall
  have HB0 : Hid (Below w.heap.size w (w.alloc (.cells #[fnCT QM, fnCP QM] 66))) := below_alloc _ _
  have HV0 : Hid ((w.alloc (.cells #[fnCT QM, fnCP QM] 66)).heap[w.heap.size]? = some (.cells #[fnCT QM, fnCP QM] 66 (0, 0))) := heap_alloc_new w _
  clear hcall hE hty
  go_enter Tryz.func25, Tryz.ntmps25
  go_wp2_with fail
  obtain ⟨w0, hw0⟩ : ∃ w0, w0 = w.alloc (.cells #[fnCT QM, fnCP QM] 66) := ⟨_, rfl⟩
  rw [← hw0] at HB0 HV0 ⊢
  clear hw0
  have HB1 : Hid (Below w.heap.size w w0.drew) := HB0.out.drew
  refine wp_region_held_drew (S := fun w' => w'.heap[w.heap.size]? = some (.cells #[fnCT QM, fnCP QM] 66 (0, 0))) (by kernel_rfl) HV0.out (fun hHeld => ?_)
  refine wpT (i := 0) (v := .pointer (some ⟨w.heap.size, 1, none⟩)) rfl (fun w hSw => ?_) hHeld ?_
  · first | rfl | go_simp
  simp only [Act.put, pz]
  refine wpT (i := 1) (v := fnCP QM) rfl (fun w hSw => ?_) hHeld ?_
  · have s1 := (two_at hSw).2.1
    first | rfl | go_simp
  simp only [Act.put, pz]
  refine wpT (i := 2) (v := .iface xt xy) rfl (fun w hSw => ?_) hHeld ?_
  · first | rfl | go_simp
  simp only [Act.put, pz]
  refine wpAnyH_ready (rs := [3]) (by kernel_rfl) (by simp) ?_
  refine AllReadyH.cons rfl (fun K' hK' => ?_) AllReadyH.nil
  have hc2 := hcl w0.drew (HT.out _ HB1.out)
  clear hcl
  go_simp
  refine hc2.mono ?_
  clear hc2
  rintro e w5 ⟨rfl, hb5⟩
  have HB5 : Hid (Below w.heap.size w w5) := HB1.out.trans (hb5.mono HB1.out.size)
  have HV5 : Hid (w5.heap[w.heap.size]? = some (.cells #[fnCT QM, fnCP QM] 66 (0, 0))) := blkB (w := w0.drew) HV0.out hb5
  refine hK'.out _ _ HV5.out (fun hHeld => ?_)
  clear hK' hb5
  refine wpAnyH_ready (rs := [4]) (by kernel_rfl) (by simp) ?_
  refine AllReadyH.cons rfl (fun K' hK' => ?_) AllReadyH.nil
  have hc3 := HC.out w5 HB5.out (blk_lt HV5.out)
  go_simp
  refine hc3.mono ?_
  clear hc3
  rintro e w6 ⟨rfl, hR, hk⟩
  have HR : Hid (R w6) := hR
  have HK6 : Hid (w6.heap[w.heap.size]? = some (.cells #[fnCT QM, fnCP QM] 66 (0, 0))) := hk.trans HV5.out
  refine hK'.out _ _ HK6.out (fun hHeld => ?_)
  clear hK' hHeld hR hk
  refine wpAnyH_done (by kernel_rfl) ?_ _
  go_wp2
  go_end0
  exact ⟨rfl, HR.out⟩

set_option maxHeartbeats 1000000 in
set_option maxRecDepth 100000 in
theorem wVisit_tab (WB b : Nat) (w : World) (R : World → Prop) (hcall : Calls Tryz.prog 54 #[.pointer (some ⟨WB, 0, none⟩), ptr b] (w.alloc (.cells #[fnWT WB, fnWP WB] 66)) fun e w' => e = .returned (.tuple #[]) ∧ R w') :
    Calls Tryz.prog 25 #[.agg #[fnWT WB, fnWP WB], .iface 107 (ptr b)] w fun e w' => e = .returned (.tuple #[]) ∧ R w' := by
  have hta := assert_yes b
  go_enter Tryz.func25, Tryz.ntmps25
  go_wp2_with (go_at_call 54; refine hcall.mono ?_; rintro e w' ⟨rfl, hR⟩)
  have HR : Hid (R w') := hR
  clear hR hcall
  go_end0
  exact ⟨rfl, HR.out⟩

set_option maxHeartbeats 1000000 in
set_option maxRecDepth 100000 in
theorem wVisit_plain (WB : Nat) (n : Nat) (T : Nat → Nat) (at_ : Nat → Int) (v : V) (hv : isV n v = true) (h4 : v.k ≠ 4) (w : World) (R : World → Prop) (HT : Hid (∀ w', Below w.heap.size w w' → ∀ j, j < n → w'.cell? ⟨T j, 0, none⟩ = some (.int .i64 (at_ j))))
    (hcall : ∀ w1, Below w.heap.size w w1 → w.heap.size < w1.heap.size → Calls Tryz.prog 55 #[.pointer (some ⟨WB, 0, none⟩), vAgg v] w1 fun e w' => e = .returned (.tuple #[]) ∧ R w' ∧ w'.heap[w.heap.size]? = w1.heap[w.heap.size]?) :
    Calls Tryz.prog 25 #[.agg #[fnWT WB, fnWP WB], ifv T v] w fun e w' => e = .returned (.tuple #[]) ∧ R w' := by
  have hta := assert_no hv h4 T
  obtain ⟨xt, xy, F, hty, hmeth, hcf, hcl⟩ := as_at hv T at_
  have hE : atV at_ v = v := by unfold atV; rw [if_neg h4]
  rw [hE] at hcl
  rw [hty] at hta ⊢
  have HC : Hid (∀ w1, Below w.heap.size w w1 → w.heap.size < w1.heap.size → Calls Tryz.prog 55 #[.pointer (some ⟨WB, 0, none⟩), vAgg v] w1 fun e w' => e = .returned (.tuple #[]) ∧ R w' ∧ w'.heap[w.heap.size]? = w1.heap[w.heap.size]?) := hcall
  have HB0 : Hid (Below w.heap.size w (w.alloc (.cells #[fnWT WB, fnWP WB] 66))) := below_alloc _ _
  have HV0 : Hid ((w.alloc (.cells #[fnWT WB, fnWP WB] 66)).heap[w.heap.size]? = some (.cells #[fnWT WB, fnWP WB] 66 (0, 0))) := heap_alloc_new w _
  clear hcall hE hty
  go_enter Tryz.func25, Tryz.ntmps25
  go_wp2_with fail
  obtain ⟨w0, hw0⟩ : ∃ w0, w0 = w.alloc (.cells #[fnWT WB, fnWP WB] 66) := ⟨_, rfl⟩
  rw [← hw0] at HB0 HV0 ⊢
  clear hw0
  have HB1 : Hid (Below w.heap.size w w0.drew) := HB0.out.drew
  refine wp_region_held_drew (S := fun w' => w'.heap[w.heap.size]? = some (.cells #[fnWT WB, fnWP WB] 66 (0, 0))) (by kernel_rfl) HV0.out (fun hHeld => ?_)
  refine wpT (i := 0) (v := .pointer (some ⟨w.heap.size, 1, none⟩)) rfl (fun w hSw => ?_) hHeld ?_
  · first | rfl | go_simp
  simp only [Act.put, pz]
  refine wpT (i := 1) (v := fnWP WB) rfl (fun w hSw => ?_) hHeld ?_
  · have s1 := (two_at hSw).2.1
    first | rfl | go_simp
  simp only [Act.put, pz]
  refine wpT (i := 2) (v := .iface xt xy) rfl (fun w hSw => ?_) hHeld ?_
  · first | rfl | go_simp
  simp only [Act.put, pz]
  refine wpAnyH_ready (rs := [3]) (by kernel_rfl) (by simp) ?_
  refine AllReadyH.cons rfl (fun K' hK' => ?_) AllReadyH.nil
  have hc2 := hcl w0.drew (HT.out _ HB1.out)
  clear hcl
  go_simp
  refine hc2.mono ?_
  clear hc2
  rintro e w5 ⟨rfl, hb5⟩
  have HB5 : Hid (Below w.heap.size w w5) := HB1.out.trans (hb5.mono HB1.out.size)
  have HV5 : Hid (w5.heap[w.heap.size]? = some (.cells #[fnWT WB, fnWP WB] 66 (0, 0))) := blkB (w := w0.drew) HV0.out hb5
  refine hK'.out _ _ HV5.out (fun hHeld => ?_)
  clear hK' hb5
  refine wpAnyH_ready (rs := [4]) (by kernel_rfl) (by simp) ?_
  refine AllReadyH.cons rfl (fun K' hK' => ?_) AllReadyH.nil
  have hc3 := HC.out w5 HB5.out (blk_lt HV5.out)
  go_simp
  refine hc3.mono ?_
  clear hc3
  rintro e w6 ⟨rfl, hR, hk⟩
  have HR : Hid (R w6) := hR
  have HK6 : Hid (w6.heap[w.heap.size]? = some (.cells #[fnWT WB, fnWP WB] 66 (0, 0))) := hk.trans HV5.out
  refine hK'.out _ _ HK6.out (fun hHeld => ?_)
  clear hK' hHeld hR hk
  refine wpAnyH_done (by kernel_rfl) ?_ _
  go_wp2
  go_end0
  exact ⟨rfl, HR.out⟩

end Go.Proofs.YtgflalfiopnmnaaGreatDoor

namespace Go.Proofs.YtgflalfiopnmnaaGreatDoor
open Go.RowKit Vl

structure CtW (w0 w : World) (QM : Nat) (T : Nat → Nat) (S : List Nat) (Q : Nat → Nat) : Prop where
  map : MapG ptr w QM (tabL T S (fun j => .int .i64 (Q j : Nat)))
  bel : Below w0.heap.size w0 w
theorem CtW.below {w0 w w' : World} {QM : Nat} {T : Nat → Nat} {S : List Nat} {Q : Nat → Nat} (h : CtW w0 w QM T S Q) (hb : Below w.heap.size w w') : CtW w0 w' QM T S Q :=
  ⟨h.map.same (hb.block _ h.map.lt), h.bel.trans (hb.mono h.bel.size)⟩

theorem CtW.inc {n : Nat} {w0 w : World} {QM : Nat} {T M : Nat → Nat} {at_ : Nat → Int} {L : Nat → Nat} {K X : Nat → Nat → V} {S : List Nat} {Q : Nat → Nat} (h : CtW w0 w QM T S Q) (hT : Tbs w0 n T M at_ L K X) (hF : Fit n S) (hL : Led S Q) {r : Nat} (hr : r < n) :
    (Instr.lookup 60 (.map (some QM)) (ptr (T r)) false).run Tryz.prog w = .ok (.int .i64 (Q r : Nat)) w ∧
    (Instr.lookup 60 (.map (some QM)) (ptr (T r)) true).run Tryz.prog w = .ok (.tuple #[.int .i64 (Q r : Nat), .bool (decide (r ∈ S))]) w := by
  have hB : ∀ j, j < n → IsB w (T j) := fun j hj => by
    obtain ⟨ord, h1, _⟩ := hT.tab j hj
    exact ⟨_, _, (h.bel.block _ (blk_lt h1)).trans h1⟩
  have hok : ∀ p ∈ tabL T S (fun j => .int .i64 (Q j : Nat)), IsB w p.1 := fun p hp => by
    obtain ⟨j, hj, rfl⟩ := List.mem_map.1 hp
    exact hB j (hF.lt j hj)
  have hf := find_tab T (fun j => .int .i64 (Q j : Nat)) r S (fun i hi e => hT.inj i r (hF.lt i hi) hr e)
  have h1 := (h.map.lookup leads_keyed (T r) (hB r hr) hok)
  rw [hf] at h1
  by_cases hm : r ∈ S
  · rw [if_pos hm] at h1
    refine ⟨h1.2, ?_⟩
    rw [decide_eq_true hm]
    exact h1.1
  · rw [if_neg hm] at h1
    have h0 := (hL r).2 hm
    rw [h0]
    refine ⟨h1.2, ?_⟩
    rw [decide_eq_false hm]
    exact h1.1
theorem CtW.put {n : Nat} {w0 w : World} {QM : Nat} {T M : Nat → Nat} {at_ : Nat → Int} {L : Nat → Nat} {K X : Nat → Nat → V} {S : List Nat} {Q : Nat → Nat} (h : CtW w0 w QM T S Q) (hT : Tbs w0 n T M at_ L K X) (hF : Fit n S) (hQ : w0.heap.size ≤ QM) {r : Nat} (hr : r < n) (x : Nat) :
    ∃ w', (Instr.mapUpdate 60 (.map (some QM)) (ptr (T r)) (.int .i64 (x : Nat))).run Tryz.prog w = .ok () w' ∧ CtW w0 w' QM T (if r ∈ S then S else S ++ [r]) (fun i => if i = r then x else Q i) ∧ Only (fun k => k = QM) w w' ∧ w'.heap.size = w.heap.size := by
  have hB : ∀ j, j < n → IsB w (T j) := fun j hj => by
    obtain ⟨ord, h1, _⟩ := hT.tab j hj
    exact ⟨_, _, (h.bel.block _ (blk_lt h1)).trans h1⟩
  have hok : ∀ p ∈ tabL T S (fun j => .int .i64 (Q j : Nat)), IsB w p.1 := fun p hp => by
    obtain ⟨j, hj, rfl⟩ := List.mem_map.1 hp
    exact hB j (hF.lt j hj)
  by_cases hm : r ∈ S
  · obtain ⟨w', a, b, c, d⟩ := h.map.reset hm hF.nd (fun i hi j hj e => hT.inj i j (hF.lt i hi) (hF.lt j hj) e) (fun i hi => hB i (hF.lt i hi)) (.int .i64 (x : Nat))
    refine ⟨w', a, ⟨?_, h.bel.trans (c.toBelow (fun k hk => by subst hk; exact hQ) h.bel.size)⟩, c, d⟩
    rw [if_pos hm]
    have e : tabL T S (fun i => if i = r then Value.int .i64 (x : Nat) else .int .i64 (Q i : Nat)) = tabL T S (fun j => .int .i64 ((if j = r then x else Q j : Nat) : Nat)) := List.map_congr_left (fun i _ => by by_cases e : i = r <;> simp [e])
    rw [← e]
    exact b
  · have hf := find_tab T (fun j => .int .i64 (Q j : Nat)) r S (fun i hi e => hT.inj i r (hF.lt i hi) hr e)
    rw [if_neg hm] at hf
    obtain ⟨w', a, b, c, d⟩ := h.map.update leads_keyed (T r) (.int .i64 (x : Nat)) (hB r hr) hok hf
    refine ⟨w', a, ⟨?_, h.bel.trans (c.toBelow (fun k hk => by subst hk; exact hQ) h.bel.size)⟩, c, d⟩
    rw [if_neg hm]
    have e : tabL T (S ++ [r]) (fun j => .int .i64 ((if j = r then x else Q j : Nat) : Nat)) = tabL T S (fun j => .int .i64 (Q j : Nat)) ++ [(T r, .int .i64 (x : Nat))] := by
      have e1 : S.map (fun j => (T j, Value.int .i64 ((if j = r then x else Q j : Nat) : Nat))) = S.map (fun j => (T j, .int .i64 (Q j : Nat))) := List.map_congr_left (fun i hi => by
        have hne : i ≠ r := fun e => hm (e ▸ hi)
        rw [if_neg hne])
      unfold tabL
      rw [List.map_append, e1]
      simp
    rw [e]
    exact b

def CtV (n : Nat) (L : Nat → Nat) (X : Nat → Nat → V) (T : Nat → Nat) (w0 : World) (QM : Nat) (f : Nat) : Prop := ∀ (S : List Nat) (Q : Nat → Nat) (v : V) (w : World), Hid (Cat n L X f S Q v) → Hid (CtW w0 w QM T S Q) →
    Calls Tryz.prog 25 #[.agg #[fnCT QM, fnCP QM], ifv T v] w fun e w' => e = .returned (.tuple #[]) ∧ CtW w0 w' QM T (met L X f S v) (cnt L X f Q v) ∧ Only (fun k => k = QM) w w'

set_option maxHeartbeats 2000000 in
set_option maxRecDepth 100000 in
theorem cTable_any (n : Nat) (T M : Nat → Nat) (at_ : Nat → Int) (L : Nat → Nat) (K X : Nat → Nat → V) (w0 : World) (QM : Nat) (HL : Hid (∀ r, r < n → L r ≤ 100)) (HG : Hid (Good n L X)) (HT : Hid (Tbs w0 n T M at_ L K X)) (hQ0 : w0.heap.size ≤ QM)
    (f : Nat) (ih : CtV n L X T w0 QM f) (S : List Nat) (Q : Nat → Nat) (v : V) (w : World) (h4 : v.k = 4) (r : Nat) (hr : v.a.toNat = r) (hrn : r < n) (HC : Hid (Cat n L X (f + 1) S Q v)) (HW : Hid (CtW w0 w QM T S Q)) :
    Calls Tryz.prog 52 #[.agg #[.map (some QM)], ptr (T r)] w fun e w' => e = .returned (.tuple #[]) ∧ CtW w0 w' QM T (met L X (f + 1) S v) (cnt L X (f + 1) Q v) ∧ Only (fun k => k = QM) w w' := by
  have HIH : Hid (CtV n L X T w0 QM f) := ih
  clear ih
  have hQM : QM < w.heap.size := HW.out.map.lt
  obtain ⟨w1, hw1⟩ : ∃ w1, w1 = w.alloc (.cells #[.map (some QM)] 62) := ⟨_, rfl⟩
  have HB1 : Hid (Below w.heap.size w w1) := by rw [hw1]; exact below_alloc _ _
  have HC1 : Hid (w1.heap[w.heap.size]? = some (.cells #[.map (some QM)] 62 (0, 0))) := by rw [hw1]; exact heap_alloc_new w _
  have HZ1 : Hid (w1.heap.size = w.heap.size + 1) := by rw [hw1]; show _ = _; simp
  have HW1 : Hid (CtW w0 w1 QM T S Q) := HW.out.below HB1.out
  obtain ⟨hlk, _⟩ := HW1.out.inc HT.out HC.out.fit HC.out.led hrn
  have hbd : Q r + 1 ≤ 100000 := by have := HC.out.old h4; rw [hr] at this; exact this
  obtain ⟨w2, hup, hW2, hO2, hs2⟩ := HW1.out.put HT.out HC.out.fit hQ0 hrn (Q r + 1)
  have HO2 : Hid (Only (fun k => k = QM) w w2) := (Only.below HB1.out).trans hO2
  have HC2 : Hid (w2.heap[w.heap.size]? = some (.cells #[.map (some QM)] 62 (0, 0))) := (hO2.block _ (blk_lt HC1.out) (by omega)).trans HC1.out
  have HZ2 : Hid (w2.heap.size = w.heap.size + 1) := show _ = _ by rw [hs2]; exact HZ1.out
  have hbm : (fun i => if i = r then Q r + 1 else Q i) = bump Q r := rfl
  rw [hbm] at hW2
  have x1 := (one_at HC1.out).1
  have x2 := (one_at HC2.out).1
  rw [hw1] at hlk hup x1
  have hadd : ((Q r : Int) + 1) = ((Q r + 1 : Nat) : Int) := by omega
  by_cases hm : r ∈ S
  · rw [if_pos hm] at hW2
    have HW2 : Hid (CtW w0 w2 QM T S (bump Q r)) := hW2
    have hq0 : Q r ≠ 0 := fun e => ((HC.out.led r).1 e) hm
    have HE1 : Hid (met L X (f + 1) S v = S) := met_old (Or.inr (by rw [hr]; exact hm))
    have HE2 : Hid (cnt L X (f + 1) Q v = bump Q r) := by
      have := cnt_old (L := L) (X := X) (f := f) (Q := Q) h4 (by rw [hr]; exact hq0)
      rw [hr] at this
      exact this
    rw [HE1.out, HE2.out]
    obtain ⟨hlk2, _⟩ := HW2.out.inc HT.out HC.out.fit (led_old HC.out.led hm) hrn
    have hbq : bump Q r r = Q r + 1 := by simp [bump]
    rw [hbq] at hlk2
    obtain ⟨q1, hq1⟩ : ∃ q1 : Nat, Q r + 1 = q1 := ⟨_, rfl⟩
    have hqg : (1 : Int) < (q1 : Int) := by omega
    rw [hq1] at hlk2 hup hadd
    have hwr : IntKind.i64.wrap ((Q r : Int) + 1) = (q1 : Int) := by rw [hadd, IntKind.wrap_i64]; omega
    clear hbm hbq hW2 hO2 hs2 hm hq0 h4 hr hw1 hq1 hadd
    go_enter Tryz.func52, Tryz.ntmps52
    go_wp2
    refine bodyPost_ret (results_none rfl _ _ _) rfl ?_
    exact ⟨rfl, HW2.out, HO2.out⟩
  · rw [if_neg hm] at hW2
    have HW2 : Hid (CtW w0 w2 QM T (S ++ [r]) (bump Q r)) := hW2
    have hq0 : Q r = 0 := (HC.out.led r).2 hm
    have HE1 : Hid (met L X (f + 1) S v = mets L X f (S ++ [r]) (X r) (L r)) := by
      have := met_new (L := L) (X := X) (f := f) (S := S) h4 (by rw [hr]; exact hm)
      rw [hr] at this
      exact this
    have HE2 : Hid (cnt L X (f + 1) Q v = cnts L X f (bump Q r) (X r) (L r)) := by
      have := cnt_new (L := L) (X := X) (f := f) (Q := Q) h4 (by rw [hr]; exact hq0)
      rw [hr] at this
      exact this
    have HM0 : Hid (Cmid n L X f (S ++ [r]) (bump Q r) r 0) := by
      have := HC.out.into h4 (by rw [hr]; exact hm)
      rw [hr] at this
      exact this
    rw [HE1.out, HE2.out]
    obtain ⟨hlk2, _⟩ := HW2.out.inc HT.out HM0.out.fit.fit (led_add HC.out.led r) hrn
    have hbq : bump Q r r = Q r + 1 := by simp [bump]
    rw [hbq] at hlk2
    obtain ⟨q1, hq1⟩ : ∃ q1 : Nat, Q r + 1 = q1 := ⟨_, rfl⟩
    have hqg : ¬ ((1 : Int) < (q1 : Int)) := by omega
    rw [hq1] at hlk2 hup hadd
    have hwr : IntKind.i64.wrap ((Q r : Int) + 1) = (q1 : Int) := by rw [hadd, IntKind.wrap_i64]; omega
    obtain ⟨ord, hTb, hOr⟩ := HT.out.tab r hrn
    obtain ⟨l, hM, hfind⟩ := HT.out.map r hrn
    obtain ⟨hform, hVals⟩ := owns_keys hOr
    have HTb : Hid (TabB w0 (T r) (M r) (at_ r) ord) := hTb
    have HM : Hid (MapIs w0 (M r) l) := hM
    have HFd : Hid (∀ c, c < L r → findV (K r c) l = some (ifv T (X r c))) := hfind
    obtain ⟨ka, hka⟩ : ∃ ka, slA ord = ka := ⟨_, rfl⟩
    obtain ⟨kb, hkb⟩ : ∃ kb, slB ord = kb := ⟨_, rfl⟩
    obtain ⟨kc, hkc⟩ : ∃ kc, slC ord = kc := ⟨_, rfl⟩
    rw [hka, hkc] at hform
    rw [hka, hkb] at hVals
    have HV : Hid (ValsAt w0 ka (L r) kb 0 (K r)) := hVals
    rw [hform] at HTb
    clear hTb hM hfind hVals hOr hform hka hkb hkc
    have t2 : w2.cell? ⟨T r, 2, none⟩ = some (.slice ka (L r) kc) := (HW2.out.bel.cell (p := ⟨T r, 2, none⟩) (HT.out.lt hrn)).trans HTb.out.cells.2.2.1
    have hLr := HL.out r hrn
    clear hbm hbq hW2 hO2 hs2 hm hq0 h4 hr hw1 hadd hbd hq1
    go_enter Tryz.func52, Tryz.ntmps52
    go_wp2
    clear t2 hlk hup hlk2 x1 x2
    go_loopw [21] (fun ii wr => ∃ c : Nat, c ≤ L r ∧ ii = .int .i64 c ∧ Hid (Cmid n L X f (S ++ [r]) (bump Q r) r c) ∧ Hid (CtW w0 wr QM T (mets L X f (S ++ [r]) (X r) c) (cnts L X f (bump Q r) (X r) c)) ∧ Hid (Only (fun k => k = QM) w2 wr)) (fun ii _ => L r - (intOf ii).toNat)
    case atStart => exact ⟨0, Nat.zero_le _, rfl, HM0, HW2, Only.refl _ _⟩
    case round =>
      obtain ⟨c, hc, rfl, HMr, HWr, HOr⟩ := hrel
      have hsr : w.heap.size + 1 ≤ wr.heap.size := by have := HOr.out.size; have := HZ2.out; omega
      have HCr : Hid (wr.heap[w.heap.size]? = some (.cells #[.map (some QM)] 62 (0, 0))) := (HOr.out.block _ (blk_lt HC2.out) (by omega)).trans HC2.out
      by_cases hlt : c < L r
      · obtain rfl := HV.out.top (by omega)
        obtain ⟨k0, k1, k2, k3⟩ := (HV.out.below HWr.out.bel).cells hlt
        simp only [Nat.zero_add] at k0 k1 k2 k3
        obtain ⟨kk, HKK⟩ : ∃ kk, Hid (K r c = kk) := ⟨_, rfl⟩
        rw [HKK.out] at k0 k1 k2 k3
        have HCt := HMr.out.at HG.out hrn hlt
        have HMn : Hid (Cmid n L X f (S ++ [r]) (bump Q r) r (c + 1)) := HMr.out.next HG.out hrn hlt
        have HSn : Hid (mets L X f (S ++ [r]) (X r) (c + 1) = met L X f (mets L X f (S ++ [r]) (X r) c) (X r c)) := mets_succ _ _ _ _ _ _
        have HQn : Hid (cnts L X f (bump Q r) (X r) (c + 1) = cnt L X f (cnts L X f (bump Q r) (X r) c) (X r c)) := cnts_succ _ _ _ _ _ _
        obtain ⟨Sc, hSc⟩ : ∃ Sc, mets L X f (S ++ [r]) (X r) c = Sc := ⟨_, rfl⟩
        obtain ⟨Qc, hQc⟩ : ∃ Qc, cnts L X f (bump Q r) (X r) c = Qc := ⟨_, rfl⟩
        rw [hSc, hQc] at HCt HWr
        rw [hSc] at HSn
        rw [hQc] at HQn
        clear hSc hQc
        go_wp2
        obtain ⟨wk, hwk⟩ : ∃ wk, wk = wr.alloc (.cells #[.int .i64 kk.k, .int .i64 kk.n, .string kk.s, .int .i64 kk.a] 24) := ⟨_, rfl⟩
        have HBk : Hid (Below wr.heap.size wr wk) := by rw [hwk]; exact (Below.refl _ _).alloc (Nat.le_refl _) _
        have HKb : Hid (ValB wk wr.heap.size kk) := by rw [hwk]; exact heap_alloc_new _ _
        rw [← hwk]
        have hszk : wk.heap.size = wr.heap.size + 1 := by rw [hwk]; simp
        obtain ⟨qb, hqb⟩ : ∃ qb, wr.heap.size = qb := ⟨_, rfl⟩
        have hq1 : QM < qb := by omega
        have hq2 : w.heap.size < qb := by omega
        rw [hqb] at HKb ⊢
        have HWk : Hid (CtW w0 wk.drew QM T Sc Qc) := HWr.out.below HBk.out.drew
        have HOk : Hid (Only (fun k => k = QM) w2 wk.drew) := HOr.out.trans (Only.below HBk.out.drew)
        have HCk : Hid (wk.drew.heap[w.heap.size]? = some (.cells #[.map (some QM)] 62 (0, 0))) := blkB HCr.out HBk.out.drew
        clear hwk k0 k1 k2 k3 HBk HWr HOr HCr
        have hfc := HFd.out c hlt
        obtain ⟨xt, xy, hxv⟩ := ifv_form T (X r c)
        rw [hxv, HKK.out] at hfc
        have hS : ∀ w' : World, Below w0.heap.size w0 w' → w'.cell? ⟨T r, 1, none⟩ = some (.map (some (M r))) ∧ (Instr.lookup 119 (.map (some (M r))) (.agg #[.int .i64 kk.k, .int .i64 kk.n, .string kk.s, .int .i64 kk.a]) false).run Tryz.prog w' = .ok (.iface xt xy) w' := fun w' hb => by
          refine ⟨(hb.cell (p := ⟨T r, 1, none⟩) (HT.out.lt hrn)).trans HTb.out.cells.2.1, ?_⟩
          have := ((HM.out.same (hb.block _ HM.out.lt)).lookup kk).2
          rw [hfc] at this
          exact this
        have HS : Hid _ := hS
        have HX : Hid (ifv T (X r c) = .iface xt xy) := hxv
        clear hS hfc hxv
        refine wp_region_held_drew (S := fun w' => Below w0.heap.size w0 w' ∧ ValB w' qb kk ∧ w'.heap[w.heap.size]? = some (.cells #[.map (some QM)] 62 (0, 0))) (by kernel_rfl) ⟨HWk.out.bel, HKb.out, HCk.out⟩ (fun hHeld => ?_)
        refine wpT (i := 0) (v := .agg #[.map (some QM)]) rfl (fun w hSw => ?_) hHeld ?_
        · have s1 := (one_at hSw.2.2).1
          first | rfl | go_simp
        simp only [Act.put, pz]
        refine wpT (i := 2) (v := .pointer (some ⟨T r, 0, none⟩)) rfl (fun w hSw => ?_) hHeld ?_
        · first | rfl | go_simp
        simp only [Act.put, pz]
        refine wpT (i := 3) (v := .pointer (some ⟨T r, 0, none⟩)) rfl (fun w hSw => ?_) hHeld ?_
        · first | rfl | go_simp
        simp only [Act.put, pz]
        refine wpT (i := 4) (v := .pointer (some ⟨T r, 1, none⟩)) rfl (fun w hSw => ?_) hHeld ?_
        · first | rfl | go_simp
        simp only [Act.put, pz]
        refine wpT (i := 5) (v := .map (some (M r))) rfl (fun w hSw => ?_) hHeld ?_
        · have s1 := (HS.out w hSw.1).1
          first | rfl | go_simp
        simp only [Act.put, pz]
        refine wpT (i := 6) (v := .agg #[.int .i64 kk.k, .int .i64 kk.n, .string kk.s, .int .i64 kk.a]) rfl (fun w hSw => ?_) hHeld ?_
        · obtain ⟨s0, s1, s2, s3, _⟩ := cells4 hSw.2.1
          first | rfl | go_simp
        simp only [Act.put, pz]
        refine wpT (i := 7) (v := .iface xt xy) rfl (fun w hSw => ?_) hHeld ?_
        · have s1 := (HS.out w hSw.1).2
          first | rfl | go_simp
        simp only [Act.put, pz]
        refine wpAnyH_ready (rs := [1]) (by kernel_rfl) (by simp) ?_
        refine AllReadyH.cons rfl (fun K' hK' => ?_) AllReadyH.nil
        have hcv := cVisitor_any QM wk.drew
        go_simp
        refine hcv.mono ?_
        clear hcv
        rintro e w4 ⟨rfl, hb4⟩
        have HB4 : Hid (Below wk.drew.heap.size wk.drew w4) := hb4
        have HW4 : Hid (CtW w0 w4 QM T Sc Qc) := HWk.out.below hb4
        refine hK'.out _ _ ⟨HW4.out.bel, blkB (w := wk.drew) HKb.out hb4, blkB HCk.out hb4⟩ (fun hHeld => ?_)
        clear hK' hb4
        refine wpAnyH_ready (rs := [8]) (by kernel_rfl) (by simp) ?_
        refine AllReadyH.cons rfl (fun K' hK' => ?_) AllReadyH.nil
        have hcall := HIH.out Sc Qc (X r c) w4 HCt HW4
        rw [HX.out] at hcall
        go_simp
        refine hcall.mono ?_
        clear hcall
        rintro e w5 ⟨rfl, hW5, hO5⟩
        have HW5 : Hid (CtW w0 w5 QM T (met L X f Sc (X r c)) (cnt L X f Qc (X r c))) := hW5
        have HO5 : Hid (Only (fun k => k = QM) w2 w5) := (HOk.out.trans (Only.below HB4.out)).trans hO5
        have hK5 : ValB w5 qb kk := (hO5.block _ (blk_lt (show w4.heap[qb]? = _ from blkB (w := wk.drew) HKb.out HB4.out)) (by omega)).trans (blkB (w := wk.drew) HKb.out HB4.out)
        have hC5 : w5.heap[w.heap.size]? = some (.cells #[.map (some QM)] 62 (0, 0)) := (hO5.block _ (blk_lt (blkB HCk.out HB4.out)) (by omega)).trans (blkB HCk.out HB4.out)
        refine hK'.out _ _ ⟨HW5.out.bel, hK5, hC5⟩ (fun hHeld => ?_)
        clear hK' hHeld hW5 hO5 hK5 hC5 HWk HOk HW4
        refine wpAnyH_done (by kernel_rfl) ?_ _
        go_wp2
        go_roundw
        case rel => exact ⟨c + 1, by omega, by go_num, HMn, by rw [HSn.out, HQn.out]; exact HW5, HO5⟩
        case measure => simp [intOf]; omega
      · obtain rfl : c = L r := by omega
        go_wp2
        go_end0
        exact ⟨rfl, HWr.out, HO2.out.trans HOr.out⟩

theorem cVisit_any (n : Nat) (T M : Nat → Nat) (at_ : Nat → Int) (L : Nat → Nat) (K X : Nat → Nat → V) (w0 : World) (QM : Nat) (HL : Hid (∀ r, r < n → L r ≤ 100)) (HG : Hid (Good n L X)) (HT : Hid (Tbs w0 n T M at_ L K X)) (hQ0 : w0.heap.size ≤ QM) : ∀ f, CtV n L X T w0 QM f := by
  intro f
  induction f with
  | zero => intro S Q v w HC _; have := HC.out.fuel; omega
  | succ f ih =>
    intro S Q v w HC HW
    by_cases h4 : v.k = 4
    · obtain ⟨a0, a1⟩ := isV_tab HC.out.val h4
      rw [ifv_tab h4]
      refine cVisit_tab QM (T v.a.toNat) w (fun w' => CtW w0 w' QM T (met L X (f + 1) S v) (cnt L X (f + 1) Q v) ∧ Only (fun k => k = QM) w w') ?_
      refine (cTable_any n T M at_ L K X w0 QM HL HG HT hQ0 f ih S Q v _ h4 v.a.toNat rfl (by omega) HC (HW.out.below (below_alloc _ _))).mono ?_
      rintro e w' ⟨rfl, h1, h2⟩
      exact ⟨rfl, h1, (Only.below (below_alloc _ _)).trans h2⟩
    · refine cVisit_plain QM n T at_ v HC.out.val h4 w (fun w' => CtW w0 w' QM T (met L X (f + 1) S v) (cnt L X (f + 1) Q v) ∧ Only (fun k => k = QM) w w') (fun w' hb j hj => ?_) (fun w1 hb hl => ?_)
      · have hb0 := HW.out.bel.trans (hb.mono HW.out.bel.size)
        exact (hb0.cell (p := ⟨T j, 0, none⟩) (HT.out.lt hj)).trans (HT.out.at0 j hj)
      · refine (cPlain_any QM v w1).mono ?_
        rintro e w' ⟨rfl, h1⟩
        rw [met_old (Or.inl h4), cnt_no h4]
        have hb2 := hb.trans (h1.mono hb.size)
        exact ⟨rfl, ⟨HW.out.below hb2, Only.below hb2⟩, h1.block _ hl⟩

end Go.Proofs.YtgflalfiopnmnaaGreatDoor
