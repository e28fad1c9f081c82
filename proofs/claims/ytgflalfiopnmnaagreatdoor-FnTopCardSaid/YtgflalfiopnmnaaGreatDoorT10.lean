import Derived.Test.YtgflalfiopnmnaaGreatDoorT0
import Derived.Test.YtgflalfiopnmnaaGreatDoorT2
import Derived.Test.YtgflalfiopnmnaaGreatDoorT9
import Derived.Lib.Builder
import Derived.Lib.AppendStr
import Derived.Lib.UnsafeStr
import Derived.Laws.Externs
import Derived.Deep.AppendLies
import Derived.Lib.ConvBytes
import Derived.Lib.Bytealg
namespace Go.Proofs.YtgflalfiopnmnaaGreatDoor
open Go.RowKit Vl

/-! A builder that lies in a field: the program's writer. -/
abbrev pW (WB : Nat) : Value := .pointer (some ⟨WB, 2, none⟩)

structure WrS (w : World) (WB QM LM base : Nat) (buf : Value) (bs : List UInt8) : Prop where
  blk : ∃ p, (p = .pointer none ∨ p = pW WB) ∧ w.heap[WB]? = some (.cells #[.map (some QM), .map (some LM), p, buf] 74 (0, 0))
  own : w.ownsRow base 5 1 buf bs.length (Lib.byteCells bs)

theorem four_at {w : World} {B : Nat} {a b c d : Value} {t : TypeId} (H : w.heap[B]? = some (.cells #[a, b, c, d] t (0, 0))) :
    w.cell? ⟨B, 0, none⟩ = some a ∧ w.cell? ⟨B, 1, none⟩ = some b ∧ w.cell? ⟨B, 2, none⟩ = some c ∧ w.cell? ⟨B, 3, none⟩ = some d ∧ w.shape? B = some (t, 4) ∧ ∀ i, w.frozen? ⟨B, i, none⟩ = false := by
  refine ⟨?_, ?_, ?_, ?_, ?_, fun i => ?_⟩ <;> simp [World.cell?, World.frozen?, World.shape?, H]

theorem WrS.lt {w : World} {WB QM LM base : Nat} {buf : Value} {bs : List UInt8} (h : WrS w WB QM LM base buf bs) : WB < w.heap.size := by
  obtain ⟨p, _, hb⟩ := h.blk
  exact blk_lt hb
theorem WrS.below {w w' : World} {WB QM LM base : Nat} {buf : Value} {bs : List UInt8} (h : WrS w WB QM LM base buf bs) (hb : Below w.heap.size w w') : WrS w' WB QM LM base buf bs := by
  obtain ⟨p, hp, hB⟩ := h.blk
  exact ⟨⟨p, hp, blkB hB hb⟩, (Only.below (P := fun _ => False) hb).owns h.own (fun _ _ _ h => h)⟩

theorem size_bld : ∃ j, Tryz.prog.info? 72 = some j ∧ j.size = 2 := by
  have h : (Tryz.prog.info? 72).map (fun i => i.size) = some 2 := by kernel_rfl
  cases hi : Tryz.prog.info? 72 with
  | none => rw [hi] at h; cases h
  | some j => rw [hi] at h; exact ⟨j, rfl, by simpa using h⟩
theorem Tryz.infoU8 : (Tryz.prog.info? 5).map (fun i => (i.zero, i.size, i.bytes)) = some (some (.int .u8 0), 1, 1) := by kernel_rfl

set_option maxHeartbeats 1000000 in
set_option maxRecDepth 100000 in
theorem copyCheck_used (b : Nat) (w : World) (h0 : w.cell? ⟨b, 2, none⟩ = some (pW b)) :
    Calls Tryz.prog 150 #[pW b] w fun e w' => e = .returned (.tuple #[]) ∧ w' = w := by
  obtain ⟨j, hj, _⟩ := size_bld
  go_enter Tryz.func150, Tryz.ntmps150
  go_wp2
  rw [Lib.run_neq_ptr_same w _ Tryz.underlying70 hj]
  go_wp2
  go_end0
  exact ⟨rfl, rfl⟩

set_option maxHeartbeats 1000000 in
set_option maxRecDepth 100000 in
theorem copyCheck_fresh (b : Nat) (w : World) (h0 : w.cell? ⟨b, 2, none⟩ = some (.pointer none)) (hsh : w.shape? b = some (74, 4)) (hfz : w.frozen? ⟨b, 2, none⟩ = false) :
    Calls Tryz.prog 150 #[pW b] w fun e w' => e = .returned (.tuple #[]) ∧ w' = w.setCell ⟨b, 2, none⟩ (pW b) := by
  obtain ⟨j, hj, hjs⟩ := size_bld
  go_enter Tryz.func150, Tryz.ntmps150
  go_wp2
  rw [Lib.run_to_unsafe w ⟨b, 2, none⟩ Tryz.underlying70 Tryz.underlying148 hj (by rw [hjs]; decide) hsh (show 2 < 4 by decide)]
  simp only [Result.andThen]
  rw [Oper.upon_value]
  go_wp2
  rw [run_callFunc_extern Tryz.func165 (by kernel_rfl) (by kernel_rfl) (by kernel_rfl) (e := Extern.AbiNoEscape.same) (by kernel_rfl)]
  rw [Lib.run_noEscape]
  simp only [Result.andThen]
  rw [Oper.upon_value]
  go_wp2
  rw [Lib.run_from_unsafe w ⟨b, 2, none⟩ Tryz.underlying148 Tryz.underlying70 hj hsh (by kernel_rfl)]
  simp only [Result.andThen]
  rw [Oper.upon_value]
  go_wp2
  go_end0
  exact ⟨rfl, rfl⟩

structure WrU (w : World) (WB QM LM base : Nat) (buf : Value) (bs : List UInt8) : Prop where
  blk : w.heap[WB]? = some (.cells #[.map (some QM), .map (some LM), pW WB, buf] 74 (0, 0))
  own : w.ownsRow base 5 1 buf bs.length (Lib.byteCells bs)

theorem copyCheck_any (WB QM LM base : Nat) (buf : Value) (bs : List UInt8) (w : World) (hB : WB < base) (H : WrS w WB QM LM base buf bs) :
    Calls Tryz.prog 150 #[pW WB] w fun e w' => e = .returned (.tuple #[]) ∧ WrU w' WB QM LM base buf bs ∧ FrV WB WB buf buf w w' ∧ w'.heap.size = w.heap.size := by
  obtain ⟨p, hp, hb⟩ := H.blk
  obtain ⟨c0, c1, c2, c3, hsh, hfz⟩ := four_at hb
  rcases hp with rfl | rfl
  · refine (copyCheck_fresh WB w c2 hsh (hfz 2)).mono ?_
    rintro e w' ⟨rfl, rfl⟩
    refine ⟨rfl, ⟨?_, ?_⟩, ⟨(Only.refl _ _).set (Or.inl rfl) _, fun _ _ h => h⟩, by simp [World.setCell]⟩
    · simp [World.setCell, Array.getElem?_modify, hb]
    · refine ownsRow_setCell_other H.own (fun e => ?_) _
      obtain ⟨_, _, _, hk⟩ := owns_form H.own
      have := (hk _ e).1
      simp only at *
      omega
  · refine (copyCheck_used WB w c2).mono ?_
    rintro e w' ⟨rfl, rfl⟩
    exact ⟨rfl, ⟨hb, H.own⟩, FrV.refl _ _ _ _, rfl⟩

theorem ownsRow_mono {w : World} {b b' e s n : Nat} {v : Value} {xs : List Value} (h : w.ownsRow b' e s v n xs) (hb : b ≤ b') : w.ownsRow b e s v n xs := by
  refine ⟨h.1, ?_⟩
  rcases h.2 with h2 | ⟨g, cap, cur, hv, hg, r⟩
  · exact Or.inl h2
  · exact Or.inr ⟨g, cap, cur, hv, Nat.le_trans hb hg, r⟩

theorem append_str_lies (w : World) (base : Nat) (t u ty e : TypeId) (i : TypeInfo) (ht : Tryz.prog.underlying t = some (.slice e)) (hu : Tryz.prog.underlying u = some .string) (hi : Tryz.prog.info? e = some i) (hz : i.zero = some (.int .u8 0))
    (hsize : i.size = 1) (hby : i.bytes = 1) (v : Value) (n : Nat) (xs : List Value) (hown : w.ownsRow base e 1 v n xs) (s : ByteArray) (hbytes : n + s.size ≤ 140737488355328) (hbase : base ≤ w.heap.size) :
    ∃ v' w', (Builtin.append_ #[t, u] ty #[v, .string s]).run Tryz.prog w = .ok v' w' ∧ w'.ownsRow base e 1 v' (n + s.size) (xs ++ Lib.strCells s) ∧ w.grownBy w' v.ownBlock ∧ (∀ k, v'.ownBlock = some k → v.ownBlock = some k ∨ w.heap.size ≤ k) := by
  have h63 : n + s.size ≤ maxLen := by unfold maxLen; omega
  rcases hown.2 with ⟨rfl, rfl⟩ | ⟨g, cap, cur, rfl, hbg, hg, hnc, hcm, hcs, htake⟩
  · have hown' : w.ownsRow w.heap.size e 1 (.slice none 0 0) 0 xs := ⟨hown.1, Or.inl ⟨rfl, rfl⟩⟩
    obtain ⟨v', w', hr, h1, h2, _⟩ := Lib.run_append_own_string (P := Tryz.prog) w w.heap.size t u ty e i ht hu hi hz hsize hby _ 0 xs hown' s h63 hbytes (Nat.le_refl _)
    refine ⟨v', w', hr, ownsRow_mono h1 hbase, h2, fun k hk => Or.inr ?_⟩
    obtain ⟨_, _, _, h⟩ := owns_form h1
    exact (h k hk).1
  · obtain ⟨v', w', hr, h1, h2, _⟩ := Lib.run_append_own_string (P := Tryz.prog) w base t u ty e i ht hu hi hz hsize hby _ n xs hown s h63 hbytes hbase
    refine ⟨v', w', hr, h1, h2, fun k hk => ?_⟩
    have hxl : xs.length = n := by simpa using hown.1
    by_cases hroom : n + s.size ≤ cap
    · have hr' := Lib.run_append_room_string (P := Tryz.prog) w t u ty e i ht hu hi hsize g n cap cur hg s hroom (by omega)
      rw [hr] at hr'
      simp only [Result.ok.injEq] at hr'
      rw [hr'.1] at hk
      exact Or.inl hk
    · have holds : ∀ j u, xs[j]? = some u → w.cell? ((⟨g, 0, none⟩ : Addr).add j) = some u := hown.cells (g := g) rfl
      have hr' := Lib.run_append_grow_string (P := Tryz.prog) w t u ty e i (.int .u8 0) ht hu hi hz ⟨g, 0, none⟩ n cap xs (by rw [hsize]; simpa using hxl) holds s (by omega) (by omega) (by rw [hby]; exact growslice_fits (by omega) (by omega))
      rw [hr] at hr'
      simp only [Result.ok.injEq] at hr'
      rw [hr'.1] at hk
      simp only [Value.ownBlock, Option.some.injEq] at hk
      exact Or.inr (by omega)

theorem wpList_append_str {w : World} {ops : Array Oper} {rest : List Oper} {o : Oper} {a : Act} {Q : Exit → Act → World → Prop} (hgd : o.guard = none) (sl x : Operand) (t u : TypeId)
    (ho : o.op = .call { callee := .builtin .append, args := #[sl, x], argTypes := #[t, u] })
    (base : Nat) (e : TypeId) (i : TypeInfo) (ht : Tryz.prog.underlying t = some (.slice e)) (hu : Tryz.prog.underlying u = some .string) (hi : Tryz.prog.info? e = some i) (hz : i.zero = some (.int .u8 0))
    (hsize : i.size = 1) (hby : i.bytes = 1)
    (v : Value) (n : Nat) (xs : List Value) (hs : a.eval sl = v) (hown : w.ownsRow base e 1 v n xs) (s : ByteArray) (hx : a.eval x = .string s)
    (hbytes : n + s.size ≤ 140737488355328) (hbase : base ≤ w.heap.size)
    (h : ∀ v' w', w'.ownsRow base e 1 v' (n + s.size) (xs ++ Lib.strCells s) → w.grownBy w' v.ownBlock → (∀ k, v'.ownBlock = some k → v.ownBlock = some k ∨ w.heap.size ≤ k) → wpList Tryz.prog ops Q rest (a.put o.dst v') w') : wpList Tryz.prog ops Q (o :: rest) a w := by
  refine wpList_plain hgd fun K hK => ?_
  obtain ⟨v', w', hr, h2, h3, h4⟩ := append_str_lies w base t u o.type e i ht hu hi hz hsize hby v n xs hown s hbytes hbase
  unfold Oper.wp execOp
  simp only [ho, resolve, invoke, builtin, Sem.run_bind, Sem.run_pure, Result.andThen_ok, List.map_toArray, List.map_cons, List.map_nil, hs, hx, hr]
  exact hK _ _ (h v' w' h2 h3 h4)

theorem WrU.put {w w3 : World} {WB QM LM base : Nat} {buf buf' : Value} {bs bs' : List UInt8} (h : WrU w WB QM LM base buf bs) (hB : WB < base) (hgrow : w.grownBy w3 buf.ownBlock)
    (hown : w3.ownsRow base 5 1 buf' bs'.length (Lib.byteCells bs')) (hat : ∀ k, buf'.ownBlock = some k → buf.ownBlock = some k ∨ w.heap.size ≤ k) :
    (w3.cell? ⟨WB, 3, none⟩ = some buf ∧ ∀ j, w3.frozen? ⟨WB, j, none⟩ = false) ∧ WrU (w3.setCell ⟨WB, 3, none⟩ buf') WB QM LM base buf' bs' ∧ FrV WB WB buf buf' w (w3.setCell ⟨WB, 3, none⟩ buf') := by
  obtain ⟨_, _, _, hk⟩ := owns_form h.own
  have n1 : buf.ownBlock ≠ some WB := fun e => by have := (hk _ e).1; omega
  have hblk := (hgrow.block WB (blk_lt h.blk) (fun e => n1 e.symm)).trans h.blk
  have hc := four_at hblk
  have ho : Only (fun k => k = WB ∨ k = WB ∨ buf.ownBlock = some k) w w3 := ⟨hgrow.os, hgrow.tape, hgrow.output, hgrow.size, fun k hk hp => hgrow.block k hk (fun e => hp (Or.inr (Or.inr e.symm)))⟩
  refine ⟨⟨hc.2.2.2.1, hc.2.2.2.2.2⟩, ⟨?_, ?_⟩, ⟨ho.set (Or.inl rfl) _, fun k hk' e => ?_⟩⟩
  · simp [World.setCell, Array.getElem?_modify, hblk]
  · refine ownsRow_setCell_other (a := ⟨WB, 3, none⟩) hown (fun e => ?_) _
    obtain ⟨_, _, _, hk2⟩ := owns_form hown
    have := (hk2 _ e).1
    simp only at *
    omega
  · rcases hat k e with h' | h'
    · exact h'
    · omega
theorem WrU.toS {w : World} {WB QM LM base : Nat} {buf : Value} {bs : List UInt8} (h : WrU w WB QM LM base buf bs) : WrS w WB QM LM base buf bs := ⟨⟨_, Or.inr rfl, h.blk⟩, h.own⟩

theorem str_len (s : ByteArray) : s.data.toList.length = s.size := by rw [Array.length_toList]; rfl

set_option maxHeartbeats 2000000 in
set_option maxRecDepth 100000 in
theorem writeString_any (WB QM LM base : Nat) (buf : Value) (bs : List UInt8) (s : ByteArray) (w : World) (hB : WB < base) (hbw : base ≤ w.heap.size) (hlen : bs.length + s.size ≤ 140737488355328) (H : Hid (WrS w WB QM LM base buf bs)) :
    Calls Tryz.prog 124 #[pW WB, .string s] w fun e w' => e = .returned (.tuple #[.int .i64 s.size, .nilIface]) ∧ ∃ buf', WrS w' WB QM LM base buf' (bs ++ s.data.toList) ∧ FrV WB WB buf buf' w w' := by
  obtain ⟨i0, hi, hz0, hz1, hz2⟩ := info_parts Tryz.infoU8
  go_enter Tryz.func124, Tryz.ntmps124
  go_wp2_with (go_at_call 150; refine (copyCheck_any WB QM LM base buf bs w hB H.out).mono ?_)
  rintro e w1 ⟨rfl, hU, hF, hs1⟩
  have HU : Hid (WrU w1 WB QM LM base buf bs) := hU
  have HF : Hid (FrV WB WB buf buf w w1) := hF
  have HS : Hid (w1.heap.size = w.heap.size) := hs1
  obtain ⟨c0, c1, c2, c3, _, _⟩ := four_at hU.blk
  clear hU hF hs1
  go_wp2_with (at_builtin; refine wpList_append_str (by rfl) _ _ 22 9 (by rfl) base 5 i0 Tryz.underlying22 Tryz.underlying9 hi hz0 hz1 hz2 buf bs.length (Lib.byteCells bs) (by rfl) HU.out.own s (by rfl) hlen (by rw [HS.out]; exact hbw) ?_)
  intro buf' w2 hown hgrow hat
  obtain ⟨ao, cap, rfl, _⟩ := owns_form hown
  have hown' : w2.ownsRow base 5 1 (.slice ao (bs.length + s.size) cap) (bs ++ s.data.toList).length (Lib.byteCells (bs ++ s.data.toList)) := by
    rw [List.length_append, str_len, show Lib.byteCells (bs ++ s.data.toList) = Lib.byteCells bs ++ Lib.strCells s by simp [Lib.byteCells, Lib.strCells]]
    exact hown
  obtain ⟨⟨d3, dz⟩, hU2, hF2⟩ := HU.out.put hB hgrow hown' hat
  have HU2 : Hid _ := hU2
  have HF2 : Hid _ := HF.out.trans hF2
  have f3 := dz 3
  clear c0 c1 c2 c3 hU2 hF2 hown hown' hgrow hat dz
  go_wp2
  go_ret2
  exact ⟨rfl, _, HU2.out.toS, HF2.out⟩

end Go.Proofs.YtgflalfiopnmnaaGreatDoor

namespace Go.Proofs.YtgflalfiopnmnaaGreatDoor
open Go.RowKit Vl

theorem byteCells_one (bs : List UInt8) (b : UInt8) : Lib.byteCells (bs ++ [b]) = Lib.byteCells bs ++ [.int .u8 b.toNat] := by simp [Lib.byteCells]
theorem byteCells_app (bs cs : List UInt8) : Lib.byteCells (bs ++ cs) = Lib.byteCells bs ++ Lib.byteCells cs := by simp [Lib.byteCells]
theorem byteCells_len (bs : List UInt8) : (Lib.byteCells bs).length = bs.length := by simp [Lib.byteCells]

set_option maxHeartbeats 2000000 in
set_option maxRecDepth 100000 in
theorem writeByte_any (WB QM LM base : Nat) (buf : Value) (bs : List UInt8) (b : UInt8) (bi : Int) (hbi : bi = (b.toNat : Int)) (w : World) (hB : WB < base) (hbw : base ≤ w.heap.size) (hlen : bs.length + 1 ≤ 140737488355328) (H : Hid (WrS w WB QM LM base buf bs)) :
    Calls Tryz.prog 130 #[pW WB, .int .u8 bi] w fun e w' => e = .returned .nilIface ∧ ∃ buf', WrS w' WB QM LM base buf' (bs ++ [b]) ∧ FrV WB WB buf buf' w w' := by
  obtain ⟨i0, hi, hz0, hz1, hz2⟩ := info_parts Tryz.infoU8
  have HB : Hid (bi = (b.toNat : Int)) := hbi
  clear hbi
  go_enter Tryz.func130, Tryz.ntmps130
  go_wp2_with (go_at_call 150; refine (copyCheck_any WB QM LM base buf bs w hB H.out).mono ?_)
  rintro e w1 ⟨rfl, hU, hF, hs1⟩
  have HU : Hid (WrU w1 WB QM LM base buf bs) := hU
  have HF : Hid (FrV WB WB buf buf w w1) := hF
  have HS : Hid (w1.heap.size = w.heap.size) := hs1
  obtain ⟨c0, c1, c2, c3, _, _⟩ := four_at hU.blk
  clear hU hF hs1
  go_wp2_with (at_builtin; refine wpList_append_lies _ (by rfl) _ _ 22 (by rfl) base 5 i0 (.int .u8 0) 1 1 Tryz.underlying22 hi hz0 hz1 hz2 (by rfl) (by omega) buf bs.length (Lib.byteCells bs) (by rfl) (HU.out.own.alloc _) ⟨w1.heap.size, 0, none⟩ 1 1 [.int .u8 bi] (by rfl) (by rfl) ?c1 ?c2 (by omega) ?c3 ?c4 ?c5 (w1.heap.size + 1) ?c6 ?_)
  case c1 => exact World.news_of_block (heap_alloc_new w1 _)
  case c2 => intro u hu; simp at hu; subst hu; rfl
  case c3 => unfold maxLen; omega
  case c4 => omega
  case c5 => have := HS.out; simp; omega
  case c6 => simp
  intro g cap w2 hown hgrow hat _
  have hown' : w2.ownsRow base 5 1 (.slice (some ⟨g, 0, none⟩) (bs.length + 1) cap) (bs ++ [b]).length (Lib.byteCells (bs ++ [b])) := by
    rw [byteCells_one, List.length_append, ← HB.out]
    exact hown
  have hba : Below w1.heap.size w1 (w1.alloc (.cells #[.int .u8 bi] 5)) := (Below.refl _ _).alloc (Nat.le_refl _) _
  have hUa : WrU (w1.alloc (.cells #[.int .u8 bi] 5)) WB QM LM base buf bs := ⟨blkB HU.out.blk hba, HU.out.own.alloc _⟩
  obtain ⟨⟨d3, dz⟩, hU2, hF2⟩ := hUa.put hB hgrow hown' (fun k hk => by
    simp only [Value.ownBlock, Option.some.injEq] at hk
    rcases hat with h | h
    · exact Or.inl (by rw [h, hk])
    · right; simp; omega)
  have HU2 : Hid _ := hU2
  have HF2 : Hid _ := (HF.out.below hba).trans hF2
  have f3 := dz 3
  clear c0 c1 c2 c3 hU2 hF2 hown hown' hgrow hat dz hba hUa
  go_wp2
  go_ret
  exact ⟨rfl, _, HU2.out.toS, HF2.out⟩

set_option maxHeartbeats 2000000 in
set_option maxRecDepth 100000 in
theorem write_any (WB QM LM base : Nat) (buf : Value) (bs cs : List UInt8) (PB m c : Nat) (w : World) (hB : WB < base) (hbw : base ≤ w.heap.size) (hm : cs.length = m) (hm0 : 0 < m) (hlen : bs.length + m ≤ 140737488355328)
    (HP : Hid (w.heap[PB]? = some (.cells (Lib.byteCells cs).toArray 5 (0, 0)))) (hPne : PB ≠ WB) (HPo : Hid (buf.ownBlock ≠ some PB)) (H : Hid (WrS w WB QM LM base buf bs)) :
    Calls Tryz.prog 128 #[pW WB, .slice (some ⟨PB, 0, none⟩) m c] w fun e w' => e = .returned (.tuple #[.int .i64 m, .nilIface]) ∧ ∃ buf', WrS w' WB QM LM base buf' (bs ++ cs) ∧ FrV WB WB buf buf' w w' := by
  obtain ⟨i0, hi, hz0, hz1, hz2⟩ := info_parts Tryz.infoU8
  have HM : Hid (cs.length = m) := hm
  clear hm
  go_enter Tryz.func128, Tryz.ntmps128
  go_wp2_with (go_at_call 150; refine (copyCheck_any WB QM LM base buf bs w hB H.out).mono ?_)
  rintro e w1 ⟨rfl, hU, hF, hs1⟩
  have HU : Hid (WrU w1 WB QM LM base buf bs) := hU
  have HF : Hid (FrV WB WB buf buf w w1) := hF
  have HS : Hid (w1.heap.size = w.heap.size) := hs1
  have HP1 : Hid (w1.heap[PB]? = some (.cells (Lib.byteCells cs).toArray 5 (0, 0))) := hF.blk HP.out hPne hPne HPo.out
  obtain ⟨c0, c1, c2, c3, _, _⟩ := four_at hU.blk
  clear hU hF hs1
  go_wp2_with (at_builtin; refine wpList_append_lies _ (by rfl) _ _ 22 (by rfl) base 5 i0 (.int .u8 0) 1 1 Tryz.underlying22 hi hz0 hz1 hz2 (by rfl) (by omega) buf bs.length (Lib.byteCells bs) (by rfl) HU.out.own ⟨PB, 0, none⟩ m c (Lib.byteCells cs) (by rfl) (by rw [byteCells_len, HM.out, Nat.mul_one]) ?c1 ?c2 hm0 ?c3 ?c4 ?c5 w1.heap.size ?c6 ?_)
  case c1 => exact World.news_of_block HP1.out
  case c2 => intro u hu; simp [Lib.byteCells] at hu; obtain ⟨x, _, rfl⟩ := hu; rfl
  case c3 => unfold maxLen; omega
  case c4 => omega
  case c5 => have := HS.out; omega
  case c6 => rfl
  intro g cap w2 hown hgrow hat _
  have hown' : w2.ownsRow base 5 1 (.slice (some ⟨g, 0, none⟩) (bs.length + m) cap) (bs ++ cs).length (Lib.byteCells (bs ++ cs)) := by
    rw [byteCells_app, List.length_append, HM.out]
    exact hown
  obtain ⟨⟨d3, dz⟩, hU2, hF2⟩ := HU.out.put hB hgrow hown' (fun k hk => by
    simp only [Value.ownBlock, Option.some.injEq] at hk
    rcases hat with h | h
    · exact Or.inl (by rw [h, hk])
    · right; omega)
  have HU2 : Hid _ := hU2
  have HF2 : Hid _ := HF.out.trans hF2
  have f3 := dz 3
  clear c0 c1 c2 c3 hU2 hF2 hown hown' hgrow hat dz
  go_wp2
  go_ret2
  exact ⟨rfl, _, HU2.out.toS, HF2.out⟩

set_option maxRecDepth 100000 in
theorem tooLong_any (WB QM LM base : Nat) (buf : Value) (bs : List UInt8) (w : World) (H : Hid (WrS w WB QM LM base buf bs)) :
    Calls Tryz.prog 27 #[.pointer (some ⟨WB, 0, none⟩)] w fun e w' => e = .returned (.bool (decide (20000 < bs.length))) ∧ w' = w := by
  obtain ⟨p, hp, hb⟩ := H.out.blk
  obtain ⟨c0, c1, c2, c3, _, _⟩ := four_at hb
  obtain ⟨ao, cap, rfl, _⟩ := owns_form H.out.own
  clear hb hp
  go_enter Tryz.func27, Tryz.ntmps27
  go_wp2
  go_ret
  refine ⟨?_, rfl⟩
  congr 2
  by_cases h : 20000 < bs.length
  · simp [h]; omega
  · simp [h]; omega

end Go.Proofs.YtgflalfiopnmnaaGreatDoor

namespace Go.Proofs.YtgflalfiopnmnaaGreatDoor
open Go.RowKit Vl

def catS (l : List ByteArray) : List UInt8 := l.flatMap fun s => s.data.toList
theorem catS_snoc (l : List ByteArray) (s : ByteArray) : catS (l ++ [s]) = catS l ++ s.data.toList := by simp [catS]
theorem catS_le : ∀ (l : List ByteArray) (c : Nat), (catS (l.take c)).length ≤ (catS l).length
  | [], c => by simp
  | s :: l, 0 => by simp [catS]
  | s :: l, c + 1 => by
    have := catS_le l c
    simp only [catS, List.take_succ_cons, List.flatMap_cons, List.length_append] at this ⊢
    omega

def Pcs (w : World) (PB : Nat) (l : List ByteArray) : Prop := w.heap[PB]? = some (.cells (l.map Value.string).toArray 9 (0, 0))
theorem Pcs.cell {w : World} {PB : Nat} {l : List ByteArray} (h : Pcs w PB l) {c : Nat} {s : ByteArray} (hc : l[c]? = some s) : w.cell? ⟨PB, c, none⟩ = some (.string s) := by
  unfold Pcs at h
  simp [World.cell?, h, hc]
theorem Pcs.ne {w : World} {PB base : Nat} {l : List ByteArray} (h : Pcs w PB l) {buf : Value} {n : Nat} {xs : List Value} (ho : w.ownsRow base 5 1 buf n xs) : buf.ownBlock ≠ some PB := fun e => by
  obtain ⟨_, cur, hh⟩ := owns_type ho e
  unfold Pcs at h
  rw [h] at hh
  simp at hh

set_option maxHeartbeats 1000000 in
set_option maxRecDepth 100000 in
theorem wput_any (WB QM LM base : Nat) (buf : Value) (bs : List UInt8) (l : List ByteArray) (PB m c : Nat) (w : World) (hm : l.length = m) (hB : WB < base) (hbw : base ≤ w.heap.size) (hlen : bs.length + (catS l).length ≤ 140737488355328) (hm1 : m ≤ 1000)
    (HP : Hid (Pcs w PB l)) (hP1 : PB ≠ WB) (H : Hid (WrS w WB QM LM base buf bs)) :
    Calls Tryz.prog 91 #[.pointer (some ⟨WB, 0, none⟩), .slice (some ⟨PB, 0, none⟩) m c] w fun e w' => e = .returned (.tuple #[]) ∧ ∃ buf', WrS w' WB QM LM base buf' (bs ++ catS l) ∧ FrV WB WB buf buf' w w' := by
  have HM : Hid (l.length = m) := hm
  have HLEN : Hid (bs.length + (catS l).length ≤ 140737488355328) := hlen
  clear hm hlen
  go_enter Tryz.func91, Tryz.ntmps91
  go_wp2
  go_loopw [8] (fun ii wr => ∃ (q : Nat) (b' : Value), q ≤ m ∧ ii = .int .i64 q ∧ Hid (WrS wr WB QM LM base b' (bs ++ catS (l.take q))) ∧ Hid (FrV WB WB buf b' w wr)) (fun ii _ => m - (intOf ii).toNat)
  case atStart => exact ⟨0, buf, Nat.zero_le _, rfl, by simpa [catS] using H, FrV.refl _ _ _ _⟩
  case round =>
    obtain ⟨q, b', hq, rfl, HW, HF⟩ := hrel
    by_cases hlt : q < m
    · obtain ⟨s, hs⟩ : ∃ s, l[q]? = some s := ⟨l[q]'(by rw [HM.out]; exact hlt), List.getElem?_eq_getElem _⟩
      have HPr : Hid (Pcs wr PB l) := HF.out.blk HP.out hP1 hP1 (HP.out.ne H.out.own)
      have hc := HPr.out.cell hs
      have HT : Hid (l.take (q + 1) = l.take q ++ [s]) := by show _ = _; rw [List.take_add_one, hs]; rfl
      have HL1 : Hid ((bs ++ catS (l.take q)).length + s.size ≤ 140737488355328) := by
        have h1 := catS_le l (q + 1)
        have h2 := HLEN.out
        rw [HT.out, catS_snoc, List.length_append, str_len] at h1
        show _ ≤ _
        rw [List.length_append]
        omega
      have hsz : base ≤ wr.heap.size := Nat.le_trans hbw HF.out.only.size
      go_wp2_with (go_at_call 124; refine (writeString_any WB QM LM base b' (bs ++ catS (l.take q)) s wr hB hsz HL1.out HW).mono ?_)
      rintro e w2 ⟨rfl, b2, hW2, hF2⟩
      have HW2 : Hid _ := hW2
      have HF2 : Hid _ := HF.out.trans hF2
      clear hW2 hF2 hc hs
      go_wp2
      go_roundw
      case rel => exact ⟨q + 1, b2, by omega, by go_num, by rw [HT.out, catS_snoc, ← List.append_assoc]; exact HW2, HF2⟩
      case measure => simp [intOf]; omega
    · obtain rfl : q = m := by omega
      go_wp2
      go_end0
      refine ⟨rfl, b', ?_, HF.out⟩
      have h := HW.out
      rw [List.take_of_length_le (by rw [HM.out]; exact Nat.le_refl _)] at h
      exact h

end Go.Proofs.YtgflalfiopnmnaaGreatDoor

namespace Go.Proofs.YtgflalfiopnmnaaGreatDoor
open Go.RowKit Vl

theorem pcs_new (w : World) (s : ByteArray) : Pcs (w.alloc (.cells #[.string s] 9)) w.heap.size [s] := by
  unfold Pcs
  exact heap_alloc_new w _
theorem below_alloc (w : World) (o : Obj) : Below w.heap.size w (w.alloc o) := (Below.refl _ _).alloc (Nat.le_refl _) _

set_option maxRecDepth 100000 in
theorem mustEscape_any (b : Nat) (w : World) : Calls Tryz.prog 129 #[.int .u8 (b : Int)] w fun e w' => e = .returned (.bool (decide (b < 32 ∨ 126 < b))) ∧ w' = w := by
  by_cases h1 : b < 32
  · have g1 : ((b : Int) < 32) := by omega
    have hR : Hid (decide (b < 32 ∨ 126 < b) = true) := show _ = _ by simp [h1]
    rw [hR.out]
    clear h1
    go_enter Tryz.func129, Tryz.ntmps129
    go_wp2
    go_ret
    exact ⟨by first | rfl | simp, rfl⟩
  · have g1 : ¬ ((b : Int) < 32) := by omega
    by_cases h2 : 126 < b
    · have g2 : ((126 : Int) < (b : Int)) := by omega
      have hR : Hid (decide (b < 32 ∨ 126 < b) = true) := show _ = _ by simp [h2]
      rw [hR.out]
      clear h1 h2
      go_enter Tryz.func129, Tryz.ntmps129
      go_wp2
      go_ret
      exact ⟨by first | rfl | simp, rfl⟩
    · have g2 : ¬ ((126 : Int) < (b : Int)) := by omega
      have hR : Hid (decide (b < 32 ∨ 126 < b) = false) := show _ = _ by simp [h1, h2]
      rw [hR.out]
      clear h1 h2
      go_enter Tryz.func129, Tryz.ntmps129
      go_wp2
      go_ret
      exact ⟨by first | rfl | simp, rfl⟩

abbrev hexS : ByteArray := ⟨#[48, 49, 50, 51, 52, 53, 54, 55, 56, 57, 97, 98, 99, 100, 101, 102]⟩
theorem lt16 {P : Nat → Prop} (h : ∀ d, d ∈ [0, 1, 2, 3, 4, 5, 6, 7, 8, 9, 10, 11, 12, 13, 14, 15] → P d) {d : Nat} (hd : d < 16) : P d := by
  refine h d ?_
  have : d = 0 ∨ d = 1 ∨ d = 2 ∨ d = 3 ∨ d = 4 ∨ d = 5 ∨ d = 6 ∨ d = 7 ∨ d = 8 ∨ d = 9 ∨ d = 10 ∨ d = 11 ∨ d = 12 ∨ d = 13 ∨ d = 14 ∨ d = 15 := by omega
  rcases this with rfl | rfl | rfl | rfl | rfl | rfl | rfl | rfl | rfl | rfl | rfl | rfl | rfl | rfl | rfl | rfl <;> simp
theorem hex_run {d : Nat} (hd : d < 16) (w : World) : (Instr.index 9 (.string hexS) (.int .u8 (d : Int))).run Tryz.prog w = .ok (.int .u8 ((hexB d).toNat : Int)) w := by
  refine lt16 (P := fun d => (Instr.index 9 (.string hexS) (.int .u8 (d : Int))).run Tryz.prog w = .ok (.int .u8 ((hexB d).toNat : Int)) w) (fun d hd => ?_) hd
  simp only [List.mem_cons, List.not_mem_nil, or_false] at hd
  rcases hd with rfl | rfl | rfl | rfl | rfl | rfl | rfl | rfl | rfl | rfl | rfl | rfl | rfl | rfl | rfl | rfl <;> kernel_rfl
theorem wrapU8 {n : Int} (h0 : 0 ≤ n) (h1 : n < 256) : IntKind.u8.wrap n = n := by
  unfold IntKind.wrap
  simp [IntKind.bits, IntKind.signed]
  omega
end Go.Proofs.YtgflalfiopnmnaaGreatDoor

namespace Go.Proofs.YtgflalfiopnmnaaGreatDoor
open Go.RowKit Vl

/-! The reader of a frozen text: its block, and the smallest steps. -/
def pk (s : ByteArray) (p : Nat) : Nat := ((s.data.toList)[p]?.getD 0).toNat
def Nx (s : ByteArray) (p : Nat) (l : List UInt8) : Prop := ∃ r, s.data.toList.drop p = l ++ r
theorem Nx.hd {s : ByteArray} {p : Nat} {b : UInt8} {l : List UInt8} (h : Nx s p (b :: l)) : pk s p = b.toNat ∧ p < s.size ∧ Nx s (p + 1) l := by
  obtain ⟨r, h⟩ := h
  have hl : p < s.data.toList.length := by
    rcases Nat.lt_or_ge p s.data.toList.length with h' | h'
    · exact h'
    · rw [List.drop_eq_nil_of_le h'] at h; simp at h
  have h2 := h
  rw [List.drop_eq_getElem_cons hl] at h2
  simp only [List.cons_append, List.cons.injEq] at h2
  refine ⟨?_, by simpa using hl, r, h2.2⟩
  unfold pk
  rw [List.getElem?_eq_getElem hl, h2.1]
  rfl
theorem Nx.app {s : ByteArray} : ∀ {p : Nat} {l m : List UInt8}, Nx s p (l ++ m) → Nx s p l ∧ Nx s (p + l.length) m
  | p, [], m, h => ⟨⟨_, rfl⟩, by simpa using h⟩
  | p, b :: l, m, h => by
    obtain ⟨r, h1⟩ := h
    refine ⟨⟨m ++ r, by simpa using h1⟩, ?_⟩
    have := (Nx.app (l := l) (m := m) (Nx.hd ⟨r, h1⟩).2.2).2
    simpa [Nat.add_assoc, Nat.add_comm 1] using this
theorem pk_end {s : ByteArray} {p : Nat} (h : s.size ≤ p) : pk s p = 0 := by
  unfold pk
  rw [List.getElem?_eq_none (by simpa using h)]
  rfl
theorem pk_in {s : ByteArray} {p : Nat} (h : p < s.size) : pk s p = s[p].toNat := by
  unfold pk
  rw [List.getElem?_eq_getElem (by simpa using h)]
  rfl
def RdB (w : World) (R : Nat) (s : ByteArray) (p LM tb : Nat) : Prop := w.heap[R]? = some (.cells #[.string s, .int .i64 (p : Int), .map (some LM), .int .i64 (tb : Int)] 83 (0, 0))
section
variable {w w' : World} {R p LM tb : Nat} {s : ByteArray}
theorem RdB.lt (h : RdB w R s p LM tb) : R < w.heap.size := blk_lt h
theorem RdB.below (h : RdB w R s p LM tb) (hb : Below w.heap.size w w') : RdB w' R s p LM tb := blkB h hb
theorem RdB.set (h : RdB w R s p LM tb) (q : Nat) : RdB (w.setCell ⟨R, 1, none⟩ (.int .i64 (q : Int))) R s q LM tb := by
  unfold RdB at h ⊢
  simp [World.setCell, Array.getElem?_modify, h]
theorem RdB.setT (h : RdB w R s p LM tb) (q : Nat) : RdB (w.setCell ⟨R, 3, none⟩ (.int .i64 (q : Int))) R s p LM q := by
  unfold RdB at h ⊢
  simp [World.setCell, Array.getElem?_modify, h]
end
abbrev OnR (R : Nat) (w w' : World) : Prop := Only (fun k => k = R) w w'

abbrev pR (R : Nat) : Value := .pointer (some ⟨R, 0, none⟩)

set_option maxRecDepth 100000 in
theorem ended_any (R p LM tb : Nat) (s : ByteArray) (w : World) (H : Hid (RdB w R s p LM tb)) :
    Calls Tryz.prog 64 #[pR R] w fun e w' => e = .returned (.bool (decide (p = s.size))) ∧ Below w.heap.size w w' := by
  obtain ⟨c0, c1, c2, c3, _, _⟩ := four_at H.out
  go_enter Tryz.func64, Tryz.ntmps64
  go_wp2
  go_region_held3 (fun w' => w'.cell? ⟨R, 0, none⟩ = some (.string s) ∧ w'.cell? ⟨R, 1, none⟩ = some (.int .i64 (p : Int)))
    (first | exact ⟨c0, c1⟩)
    (fail)
  go_wp2
  go_ret
  refine ⟨?_, (Below.refl _ _).drew⟩
  by_cases h : p = s.size
  · subst h; simp
  · have : ¬ (p : Int) = (s.size : Int) := by omega
    simp [h, this]

theorem idx_run {s : ByteArray} {p : Nat} (h : p < s.size) (w : World) : (Instr.index 9 (.string s) (.int .i64 (p : Int))).run Tryz.prog w = .ok (.int .u8 (pk s p : Nat)) w := by
  rw [pk_in h]
  have h1 : (0 : Int) ≤ (p : Int) ∧ (p : Int) < (s.size : Int) := by omega
  go_simp

set_option maxRecDepth 100000 in
theorem peek_any (R p LM tb : Nat) (s : ByteArray) (w : World) (hp : p ≤ s.size) (H : Hid (RdB w R s p LM tb)) :
    Calls Tryz.prog 101 #[pR R] w fun e w' => e = .returned (.int .u8 (pk s p : Nat)) ∧ Below w.heap.size w w' := by
  have he := ended_any R p LM tb s w H
  by_cases h : p = s.size
  · rw [decide_eq_true h] at he
    have HP : Hid (pk s p = 0) := pk_end (by omega)
    go_enter Tryz.func101, Tryz.ntmps101
    go_wp2_with (go_at_call 64; refine he.mono ?_)
    rintro e w1 ⟨rfl, hb⟩
    go_wp2
    go_ret
    exact ⟨by rw [HP.out]; rfl, hb⟩
  · rw [decide_eq_false h] at he
    have ix := fun w => idx_run (s := s) (p := p) (by omega) w
    obtain ⟨b, hb⟩ : ∃ b, pk s p = b := ⟨_, rfl⟩
    rw [hb] at ix ⊢
    clear hb
    go_enter Tryz.func101, Tryz.ntmps101
    go_wp2_with (go_at_call 64; refine he.mono ?_)
    rintro e w1 ⟨rfl, hb1⟩
    obtain ⟨c0, c1, c2, c3, _, _⟩ := four_at (H.out.below hb1)
    clear he
    go_wp2
    go_region_held3 (fun w' => w'.cell? ⟨R, 0, none⟩ = some (.string s) ∧ w'.cell? ⟨R, 1, none⟩ = some (.int .i64 (p : Int)))
      (first | exact ⟨c0, c1⟩)
      (fail)
    go_wp2
    go_ret
    exact ⟨rfl, hb1.drew⟩

set_option maxRecDepth 100000 in
theorem take_no (R p LM tb : Nat) (s : ByteArray) (b : Nat) (w : World) (hp : p ≤ s.size) (hb : pk s p ≠ b) (H : Hid (RdB w R s p LM tb)) :
    Calls Tryz.prog 100 #[pR R, .int .u8 (b : Int)] w fun e w' => e = .returned (.bool false) ∧ Below w.heap.size w w' := by
  have he := peek_any R p LM tb s w hp H
  obtain ⟨q, hq⟩ : ∃ q, pk s p = q := ⟨_, rfl⟩
  rw [hq] at he hb
  have hb' : ¬ ((q : Int) = (b : Int)) := by omega
  clear hq hb
  go_enter Tryz.func100, Tryz.ntmps100
  go_wp2_with (go_at_call 101; refine he.mono ?_)
  rintro e w1 ⟨rfl, hb1⟩
  clear he
  go_wp2
  go_ret
  exact ⟨rfl, hb1⟩

structure Stp (w w' : World) (R : Nat) (s : ByteArray) (q LM tb : Nat) : Prop where
  rd : RdB w' R s q LM tb
  on : OnR R w w'
theorem Stp.trans {w w' w'' : World} {R : Nat} {s : ByteArray} {q q' LM LM' tb tb' : Nat} (h : Stp w w' R s q LM tb) (h' : Stp w' w'' R s q' LM' tb') : Stp w w'' R s q' LM' tb' := ⟨h'.rd, h.on.trans h'.on⟩
theorem Stp.below {w w' w'' : World} {R : Nat} {s : ByteArray} {q LM tb : Nat} (h : Stp w w' R s q LM tb) (hb : Below w'.heap.size w' w'') : Stp w w'' R s q LM tb := ⟨h.rd.below hb, h.on.trans (Only.below hb)⟩
theorem RdB.stp {w w' : World} {R : Nat} {s : ByteArray} {q LM tb : Nat} (h : RdB w R s q LM tb) (hb : Below w.heap.size w w') : Stp w w' R s q LM tb := ⟨h.below hb, Only.below hb⟩
theorem Stp.set {w w' : World} {R : Nat} {s : ByteArray} {q LM tb : Nat} (h : Stp w w' R s q LM tb) (q' : Nat) : Stp w (w'.setCell ⟨R, 1, none⟩ (.int .i64 (q' : Int))) R s q' LM tb := ⟨h.rd.set q', h.on.set rfl _⟩

set_option maxRecDepth 100000 in
theorem take_yes (R p LM tb : Nat) (s : ByteArray) (b : Nat) (w : World) (hp : p < s.size) (hmax : s.size ≤ 20000) (hb : pk s p = b) (H : Hid (RdB w R s p LM tb)) :
    Calls Tryz.prog 100 #[pR R, .int .u8 (b : Int)] w fun e w' => e = .returned (.bool true) ∧ Stp w w' R s (p + 1) LM tb := by
  have he := peek_any R p LM tb s w (by omega) H
  rw [hb] at he
  clear hb
  go_enter Tryz.func100, Tryz.ntmps100
  go_wp2_with (go_at_call 101; refine he.mono ?_)
  rintro e w1 ⟨rfl, hb1⟩
  have HS : Hid (Stp w w1 R s p LM tb) := H.out.stp hb1
  obtain ⟨c0, c1, c2, c3, _, cz⟩ := four_at HS.out.rd
  have z1 := cz 1
  clear he cz
  go_wp2
  go_ret
  exact ⟨rfl, HS.out.set (p + 1)⟩

def posOf (w : World) (R : Nat) : Nat := match w.cell? ⟨R, 1, none⟩ with
  | some (.int _ i) => i.toNat
  | _ => 0
theorem RdB.pos {w : World} {R : Nat} {s : ByteArray} {q LM tb : Nat} (h : RdB w R s q LM tb) : posOf w R = q := by
  unfold posOf
  rw [(four_at h).2.1]
  rfl

structure Blk (s : ByteArray) (p k : Nat) : Prop where
  le : p + k ≤ s.size
  is : ∀ i, i < k → pk s (p + i) = 32
  no : pk s (p + k) ≠ 32 ∧ pk s (p + k) ≠ 10
theorem blk0 {s : ByteArray} {p : Nat} (hp : p ≤ s.size) (h : pk s p ≠ 32 ∧ pk s p ≠ 10) : Blk s p 0 := ⟨hp, fun _ hi => absurd hi (Nat.not_lt_zero _), h⟩
theorem blk1 {s : ByteArray} {p : Nat} {l : List UInt8} {b : UInt8} (h : Nx s p (32 :: b :: l)) (hb : b ≠ 32) (hb' : b ≠ 10) : Blk s p 1 := by
  obtain ⟨h1, h2, h3⟩ := h.hd
  obtain ⟨h4, h5, _⟩ := h3.hd
  refine ⟨by omega, fun i hi => ?_, ?_⟩
  · obtain rfl : i = 0 := by omega
    simpa using h1
  · rw [h4]
    exact ⟨fun e => hb (UInt8.toNat_inj.1 e), fun e => hb' (UInt8.toNat_inj.1 e)⟩

set_option maxRecDepth 100000 in
set_option maxHeartbeats 1000000 in
theorem skip_any (R p LM tb : Nat) (s : ByteArray) (k : Nat) (w : World) (hmax : s.size ≤ 20000) (hk : Blk s p k) (H : Hid (RdB w R s p LM tb)) :
    Calls Tryz.prog 62 #[pR R] w fun e w' => e = .returned (.tuple #[]) ∧ Stp w w' R s (p + k) LM tb := by
  have HK : Hid (Blk s p k) := hk
  clear hk
  go_enter Tryz.func62, Tryz.ntmps62
  go_wp2
  go_loopw [] (fun wr => ∃ i, i ≤ k ∧ Hid (Stp w wr R s (p + i) LM tb)) (fun wr => p + k - posOf wr R)
  case atStart => exact ⟨0, Nat.zero_le _, H.out.stp (Below.refl _ _)⟩
  case round =>
    obtain ⟨i, hi, HR⟩ := hrel
    have HP : Hid (posOf wr R = p + i) := HR.out.rd.pos
    have hsz := HK.out.le
    by_cases hlt : i < k
    · have hx := HK.out.is i hlt
      go_wp2_with (go_at_call 100; refine (take_yes R (p + i) LM tb s 32 wr (by omega) hmax hx HR.out.rd).mono ?_)
      rintro e w1 ⟨rfl, h1⟩
      have HS : Hid (Stp w w1 R s (p + (i + 1)) LM tb) := HR.out.trans h1
      go_wp2
      go_roundw
      case rel => exact ⟨i + 1, by omega, HS⟩
      case measure => have := HS.out.rd.pos; have := HP.out; omega
    · obtain rfl : i = k := by omega
      have hx := HK.out.no
      go_wp2_with (go_at_call 100; refine (take_no R (p + i) LM tb s 32 wr (by omega) hx.1 HR.out.rd).mono ?_)
      rintro e w1 ⟨rfl, h1⟩
      have HS : Hid (Stp w w1 R s (p + i) LM tb) := HR.out.below h1
      go_wp2_with (go_at_call 100; refine (take_no R (p + i) LM tb s 10 w1 (by omega) hx.2 HS.out.rd).mono ?_)
      rintro e w2 ⟨rfl, h2⟩
      go_wp2
      go_end0
      exact ⟨rfl, HS.out.below h2⟩

set_option maxRecDepth 100000 in
theorem isDigit_any (b : Nat) (w : World) : Calls Tryz.prog 135 #[.int .u8 (b : Int)] w fun e w' => e = .returned (.bool (decide (48 ≤ b ∧ b ≤ 57))) ∧ w' = w := by
  by_cases h1 : 48 ≤ b
  · have g1 : ((48 : Int) ≤ (b : Int)) := by omega
    by_cases h2 : b ≤ 57
    · have g2 : ((b : Int) ≤ (57 : Int)) := by omega
      have hR : Hid (decide (48 ≤ b ∧ b ≤ 57) = true) := show _ = _ by simp [h1, h2]
      rw [hR.out]
      clear h1 h2
      go_enter Tryz.func135, Tryz.ntmps135
      go_wp2
      go_ret
      exact ⟨by first | rfl | simp [g1, g2], rfl⟩
    · have g2 : ¬ ((b : Int) ≤ (57 : Int)) := by omega
      have hR : Hid (decide (48 ≤ b ∧ b ≤ 57) = false) := show _ = _ by simp [h2]
      rw [hR.out]
      clear h1 h2
      go_enter Tryz.func135, Tryz.ntmps135
      go_wp2
      go_ret
      exact ⟨by first | rfl | simp [g1, g2], rfl⟩
  · have g1 : ¬ ((48 : Int) ≤ (b : Int)) := by omega
    have hR : Hid (decide (48 ≤ b ∧ b ≤ 57) = false) := show _ = _ by simp [h1]
    rw [hR.out]
    clear h1
    go_enter Tryz.func135, Tryz.ntmps135
    go_wp2
    go_ret
    exact ⟨by first | rfl | simp [g1], rfl⟩

end Go.Proofs.YtgflalfiopnmnaaGreatDoor

namespace Go.Proofs.YtgflalfiopnmnaaGreatDoor
open Go.RowKit Vl

theorem Nx.at {s : ByteArray} : ∀ {l : List UInt8} {p q : Nat} {b : UInt8}, Nx s p l → l[q]? = some b → pk s (p + q) = b.toNat ∧ p + q < s.size
  | [], p, q, b, _, hq => by simp at hq
  | c :: l, p, 0, b, h, hq => by
    simp at hq; subst hq
    exact ⟨h.hd.1, h.hd.2.1⟩
  | c :: l, p, q + 1, b, h, hq => by
    have := Nx.at (q := q) h.hd.2.2 (by simpa using hq)
    rwa [show p + 1 + q = p + (q + 1) by omega] at this
theorem Nx.le {s : ByteArray} {p : Nat} {l : List UInt8} (h : Nx s p l) (hp : p ≤ s.size) : p + l.length ≤ s.size := by
  rcases Nat.eq_zero_or_pos l.length with h0 | h0
  · omega
  · have hl : l.length - 1 < l.length := by omega
    have := (h.at (q := l.length - 1) (List.getElem?_eq_getElem hl)).2
    omega

set_option maxHeartbeats 1000000 in
set_option maxRecDepth 100000 in
theorem expect_any (R p LM tb : Nat) (s x : ByteArray) (w : World) (hmax : s.size ≤ 20000) (hx : x.size ≤ 10) (HN : Hid (Nx s p x.data.toList)) (H : Hid (RdB w R s p LM tb)) :
    Calls Tryz.prog 102 #[pR R, .string x] w fun e w' => e = .returned .nilIface ∧ Stp w w' R s (p + x.size) LM tb := by
  have hcv := Lib.run_convert_string_bytes (P := Tryz.prog) w 9 22 5 x Tryz.underlying9 Tryz.underlying22 Tryz.underlying5
  obtain ⟨cp, hcp⟩ : ∃ cp, grownCap w x.size 0 5 = cp := ⟨_, rfl⟩
  obtain ⟨wc, hwc⟩ : ∃ wc, Lib.bytesWorld w 5 x = wc := ⟨_, rfl⟩
  rw [hcp, hwc] at hcv
  have HBc : Hid (Below w.heap.size w wc) := by
    rw [← hwc]
    exact ⟨rfl, rfl, rfl, by rw [Lib.bytesWorld_size]; omega, fun j hj => Lib.bytesWorld_at_old w _ x j hj⟩
  have HCc : Hid (∀ j, j < x.size → wc.cell? ⟨w.heap.size, j, none⟩ = some (.int .u8 (x.data.toList.getD j 0).toNat)) := by
    rw [← hwc]
    exact fun j hj => Lib.bytesWorld_cell w _ x j hj
  have HZc : Hid (wc.heap.size = w.heap.size + 1) := by rw [← hwc]; exact Lib.bytesWorld_size w _ x
  have HSc : Hid (Stp w wc R s p LM tb) := H.out.stp HBc.out
  have hRl : R < w.heap.size := H.out.lt
  clear hwc hcp HBc
  go_enter Tryz.func102, Tryz.ntmps102
  go_wp2
  clear hcv
  go_loopw [10] (fun ii wr => ∃ (q : Nat), q ≤ x.size ∧ ii = .int .i64 q ∧ Hid (Stp wc wr R s (p + q) LM tb)) (fun ii _ => x.size - (intOf ii).toNat)
  case atStart => exact ⟨0, Nat.zero_le _, rfl, HSc.out.rd.stp (Below.refl _ _)⟩
  case round =>
    obtain ⟨q, hq, rfl, HR⟩ := hrel
    by_cases hlt : q < x.size
    · obtain ⟨b, hb⟩ : ∃ b, x.data.toList[q]? = some b := ⟨x.data.toList[q]'(by simpa using hlt), List.getElem?_eq_getElem _⟩
      obtain ⟨hk, hks⟩ := HN.out.at hb
      have hcell : wr.cell? ⟨w.heap.size, q, none⟩ = some (.int .u8 (b.toNat : Int)) := by
        have h1 := HCc.out q hlt
        rw [List.getD_eq_getElem?_getD, hb] at h1
        exact HR.out.on.cell h1 (show w.heap.size ≠ R by omega)
      have hcall := take_yes R (p + q) LM tb s b.toNat wr hks hmax hk HR.out.rd
      clear hk hb
      go_wp2_with (go_at_call 100; refine hcall.mono ?_)
      rintro e w1 ⟨rfl, h1⟩
      have HS : Hid (Stp wc w1 R s (p + (q + 1)) LM tb) := HR.out.trans h1
      clear hcall h1 hcell
      go_wp2
      go_roundw
      case rel => exact ⟨q + 1, by omega, by go_num, HS⟩
      case measure => simp [intOf]; omega
    · obtain rfl : q = x.size := by omega
      go_wp2
      go_ret
      exact ⟨rfl, HSc.out.trans HR.out⟩

theorem cut_run {s : ByteArray} {p q : Nat} (h : p ≤ q) (hq : q ≤ s.size) (w : World) : (Instr.slice 9 (.string s) (some (.int .i64 (p : Int))) (some (.int .i64 (q : Int))) none).run Tryz.prog w = .ok (.string (s.extract p q)) w := by
  have h1 : (0 : Int) ≤ (p : Int) ∧ (p : Int) ≤ (q : Int) := by omega
  have h2 : (0 : Int) ≤ (q : Int) ∧ (q : Int) ≤ (s.size : Int) := by omega
  simp [Instr.slice, run_underlying Tryz.underlying9, Instr.sliceBounds, Instr.sliceBound, asIntOf, h, hq, Result.andThen]

theorem extract_nx {s : ByteArray} {p : Nat} {l : List UInt8} (h : Nx s p l) : s.extract p (p + l.length) = ⟨l.toArray⟩ := by
  obtain ⟨r, h⟩ := h
  apply ByteArray.ext
  apply Array.toList_inj.1
  rw [ByteArray.data_extract, Array.toList_extract]
  simp only [List.extract_eq_take_drop, Nat.add_sub_cancel_left, h]
  simp

structure Dgs (s : ByteArray) (p : Nat) (l : List UInt8) : Prop where
  nx : Nx s p l
  dig : ∀ b ∈ l, 48 ≤ b.toNat ∧ b.toNat ≤ 57
  pos : 0 < l.length
  no : ¬ (48 ≤ pk s (p + l.length) ∧ pk s (p + l.length) ≤ 57)

set_option maxHeartbeats 1000000 in
set_option maxRecDepth 100000 in
theorem digits_any (R p LM tb : Nat) (s : ByteArray) (l : List UInt8) (w : World) (hmax : s.size ≤ 20000) (hp : p ≤ s.size) (HD : Hid (Dgs s p l)) (H : Hid (RdB w R s p LM tb)) :
    Calls Tryz.prog 156 #[pR R] w fun e w' => e = .returned (.tuple #[.string ⟨l.toArray⟩, .nilIface]) ∧ Stp w w' R s (p + l.length) LM tb := by
  have hle := HD.out.nx.le hp
  have hcut := fun w => cut_run (s := s) (p := p) (q := p + l.length) (by omega) hle w
  rw [extract_nx HD.out.nx] at hcut
  have h0 := HD.out.pos
  obtain ⟨c0, c1, c2, c3, _, cz⟩ := four_at H.out
  go_enter Tryz.func156, Tryz.ntmps156
  go_wp2
  clear c0 c1 c2 c3 cz
  go_loopw [] (fun wr => ∃ i, i ≤ l.length ∧ Hid (Stp w wr R s (p + i) LM tb)) (fun wr => p + l.length - posOf wr R)
  case atStart => exact ⟨0, Nat.zero_le _, H.out.stp (Below.refl _ _)⟩
  case round =>
    obtain ⟨i, hi, HR⟩ := hrel
    have HP : Hid (posOf wr R = p + i) := HR.out.rd.pos
    have hpk := peek_any R (p + i) LM tb s wr (by omega) HR.out.rd
    obtain ⟨d, hd⟩ : ∃ d, pk s (p + i) = d := ⟨_, rfl⟩
    rw [hd] at hpk
    by_cases hlt : i < l.length
    · obtain ⟨b, hb⟩ : ∃ b, l[i]? = some b := ⟨l[i], List.getElem?_eq_getElem hlt⟩
      have h1 := HD.out.dig b (List.mem_of_getElem? hb)
      have h2 := (HD.out.nx.at hb).1
      have hdg := isDigit_any d
      rw [decide_eq_true (show 48 ≤ d ∧ d ≤ 57 by omega)] at hdg
      clear h1 h2 hb hd
      go_wp2_with (go_at_call 101; refine hpk.mono ?_)
      rintro e w1 ⟨rfl, h1⟩
      have HS : Hid (Stp w w1 R s (p + i) LM tb) := HR.out.below h1
      clear hpk h1
      go_wp2_with (go_at_call 135; refine (hdg w1).mono ?_)
      rintro e w2 ⟨rfl, rfl⟩
      obtain ⟨c0, c1, c2, c3, _, cz⟩ := four_at HS.out.rd
      have z1 := cz 1
      clear hdg cz
      go_wp2
      go_roundw
      case rel => exact ⟨i + 1, by omega, by have := HS.out.set (p + i + 1); exact this⟩
      case measure =>
        have h9 := (HS.out.set (p + i + 1)).rd.pos
        rw [show ((p + i + 1 : Nat) : Int) = (p : Int) + (i : Int) + 1 by omega] at h9
        have := HP.out
        omega
    · obtain rfl : i = l.length := by omega
      have h1 := HD.out.no
      rw [hd] at h1
      have hdg := isDigit_any d
      rw [decide_eq_false h1] at hdg
      clear h1 hd
      go_wp2_with (go_at_call 101; refine hpk.mono ?_)
      rintro e w1 ⟨rfl, h1⟩
      have HS : Hid (Stp w w1 R s (p + l.length) LM tb) := HR.out.below h1
      clear hpk h1
      go_wp2_with (go_at_call 135; refine (hdg w1).mono ?_)
      rintro e w2 ⟨rfl, rfl⟩
      obtain ⟨c0, c1, c2, c3, _, cz⟩ := four_at HS.out.rd
      obtain ⟨q, hq⟩ : ∃ q, p + l.length = q := ⟨_, rfl⟩
      rw [hq] at hcut HS c1
      have hne : ¬ (q : Int) = (p : Int) := by omega
      clear hdg cz
      go_wp2
      go_region_held3 (fun w' => w'.cell? ⟨R, 0, none⟩ = some (.string s) ∧ w'.cell? ⟨R, 1, none⟩ = some (.int .i64 (q : Int)))
        (first | exact ⟨c0, c1⟩)
        (fail)
      go_wp2
      go_ret2
      exact ⟨rfl, by rw [hq]; exact HS.out.below (Below.refl _ _).drew⟩

theorem hexIx {d : Nat} (hd : d < 16) (w : World) : (Extern.BytealgIndexByte.indexByte #[.string hexS, .int .u8 ((hexB d).toNat : Int)]).run Tryz.prog w = .ok (.int .i64 (d : Int)) w := by
  refine lt16 (P := fun d => (Extern.BytealgIndexByte.indexByte #[.string hexS, .int .u8 ((hexB d).toNat : Int)]).run Tryz.prog w = .ok (.int .i64 (d : Int)) w) (fun d hd => ?_) hd
  simp only [List.mem_cons, List.not_mem_nil, or_false] at hd
  rcases hd with rfl | rfl | rfl | rfl | rfl | rfl | rfl | rfl | rfl | rfl | rfl | rfl | rfl | rfl | rfl | rfl <;> kernel_rfl

set_option maxRecDepth 100000 in
theorem indexByte_any {d : Nat} (hd : d < 16) (w : World) : Calls Tryz.prog 181 #[.string hexS, .int .u8 ((hexB d).toNat : Int)] w fun e w' => e = .returned (.int .i64 (d : Int)) ∧ w' = w := by
  have hx := hexIx hd w
  obtain ⟨b, hb⟩ : ∃ b, (hexB d).toNat = b := ⟨_, rfl⟩
  rw [hb] at hx ⊢
  have h2 : Calls Tryz.prog 185 #[.string hexS, .int .u8 (b : Int)] w fun e w' => e = .returned (.int .i64 (d : Int)) ∧ w' = w := by
    go_enter Tryz.func185, Tryz.ntmps185
    go_wp2
    rw [run_callFunc_extern Tryz.func188 (by kernel_rfl) (by kernel_rfl) (by kernel_rfl) (e := Extern.BytealgIndexByte.indexByte) (by kernel_rfl)]
    rw [hx]
    simp only [Result.andThen]
    rw [Oper.upon_value]
    go_wp2
    go_ret
    exact ⟨rfl, rfl⟩
  go_enter Tryz.func181, Tryz.ntmps181
  go_wp2_with (go_at_call 185; refine h2.mono ?_)
  rintro e w1 ⟨rfl, rfl⟩
  go_wp2
  go_ret
  exact ⟨rfl, rfl⟩

set_option maxHeartbeats 1000000 in
set_option maxRecDepth 100000 in
theorem hexDigit_any (R p LM tb : Nat) (s : ByteArray) (d : Nat) (w : World) (hmax : s.size ≤ 20000) (hp : p < s.size) (hd : d < 16) (hx : pk s p = (hexB d).toNat) (H : Hid (RdB w R s p LM tb)) :
    Calls Tryz.prog 172 #[pR R] w fun e w' => e = .returned (.tuple #[.int .u8 (d : Int), .nilIface]) ∧ Stp w w' R s (p + 1) LM tb := by
  have hpk := peek_any R p LM tb s w (by omega) H
  have hix := fun w => indexByte_any hd w
  rw [hx] at hpk
  obtain ⟨b, hb⟩ : ∃ b, (hexB d).toNat = b := ⟨_, rfl⟩
  rw [hb] at hpk hix
  clear hx hb
  have hd0 : ¬ ((d : Int) < 0) := by omega
  have hwr : IntKind.u8.wrap (d : Int) = (d : Int) := wrapU8 (by omega) (by omega)
  go_enter Tryz.func172, Tryz.ntmps172
  go_wp2_with (go_at_call 101; refine hpk.mono ?_)
  try simp only [and_imp]
  rintro e w1 rfl h1
  have HS : Hid (Stp w w1 R s p LM tb) := H.out.stp h1
  clear hpk h1
  go_wp2_with (go_at_call 181; refine (hix w1).mono ?_)
  rintro e w2 ⟨rfl, rfl⟩
  obtain ⟨c0, c1, c2, c3, _, cz⟩ := four_at HS.out.rd
  have z1 := cz 1
  clear hix cz
  go_wp2
  go_ret2
  exact ⟨by first | rfl | rw [hwr] | simp [hwr], HS.out.set (p + 1)⟩

end Go.Proofs.YtgflalfiopnmnaaGreatDoor

namespace Go.Proofs.YtgflalfiopnmnaaGreatDoor
open Go.RowKit Vl

theorem quB_a {x : UInt8} (h : x = 34 ∨ x = 92) : quB x = [92, x] := by unfold quB; rw [if_pos h]
theorem quB_b {x : UInt8} (h : ¬ (x = 34 ∨ x = 92)) (h2 : x.toNat < 32 ∨ 126 < x.toNat) : quB x = [92, hexB (x.toNat / 16), hexB (x.toNat % 16)] := by unfold quB; rw [if_neg h, if_pos h2]
theorem quB_c {x : UInt8} (h : ¬ (x = 34 ∨ x = 92)) (h2 : ¬ (x.toNat < 32 ∨ 126 < x.toNat)) : quB x = [x] := by unfold quB; rw [if_neg h, if_neg h2]

structure QuR (wc wr : World) (WB QM LM base : Nat) (b1 b' : Value) (acc : List UInt8) : Prop where
  st : WrS wr WB QM LM base b' acc
  fr : FrV WB WB b1 b' wc wr

set_option maxHeartbeats 2000000 in
set_option maxRecDepth 100000 in
theorem quote_any (WB QM LM base : Nat) (buf : Value) (bs : List UInt8) (s : ByteArray) (w : World) (hB : WB < base) (hbw : base ≤ w.heap.size) (hs : s.size ≤ 1000000) (hlen : bs.length ≤ 1000000000) (H : Hid (WrS w WB QM LM base buf bs)) :
    Calls Tryz.prog 96 #[.pointer (some ⟨WB, 0, none⟩), .string s] w fun e w' => e = .returned (.tuple #[]) ∧ ∃ buf', WrS w' WB QM LM base buf' (bs ++ quT s) ∧ FrV WB WB buf buf' w w' := by
  have hq1 : catS [⟨#[34]⟩] = [34] := rfl
  go_enter Tryz.func96, Tryz.ntmps96
  go_wp2_with (go_at_call 91; refine (wput_any WB QM LM base buf bs [⟨#[34]⟩] w.heap.size 1 1 (w.alloc (.cells #[.string ⟨#[34]⟩] 9)) rfl hB (by simp; omega) (by rw [hq1]; simp; omega) (by omega) (pcs_new w _) (by omega) (H.out.below (below_alloc _ _))).mono ?_)
  rintro e w1 ⟨rfl, b1, hW1, hF1⟩
  rw [hq1] at hW1
  have HW1 : Hid (WrS w1 WB QM LM base b1 (bs ++ [34])) := hW1
  have HF1 : Hid (FrV WB WB buf b1 w w1) := (FrV.first (below_alloc _ _)).trans hF1
  have hsz1 : base ≤ w1.heap.size := Nat.le_trans hbw HF1.out.only.size
  clear hW1 hF1 hq1
  have hcv := Lib.run_convert_string_bytes (P := Tryz.prog) w1 9 22 5 s Tryz.underlying9 Tryz.underlying22 Tryz.underlying5
  obtain ⟨cp, hcp⟩ : ∃ cp, grownCap w1 s.size 0 5 = cp := ⟨_, rfl⟩
  obtain ⟨wc, hwc⟩ : ∃ wc, Lib.bytesWorld w1 5 s = wc := ⟨_, rfl⟩
  rw [hcp, hwc] at hcv
  have HBc : Hid (Below w1.heap.size w1 wc) := by
    rw [← hwc]
    exact ⟨rfl, rfl, rfl, by rw [Lib.bytesWorld_size]; omega, fun j hj => Lib.bytesWorld_at_old w1 _ s j hj⟩
  have HCc : Hid (∀ j, j < s.size → wc.cell? ⟨w1.heap.size, j, none⟩ = some (.int .u8 (s.data.toList.getD j 0).toNat)) := by
    rw [← hwc]
    exact fun j hj => Lib.bytesWorld_cell w1 _ s j hj
  have HZc : Hid (wc.heap.size = w1.heap.size + 1) := by rw [← hwc]; exact Lib.bytesWorld_size w1 _ s
  have HWc : Hid (WrS wc WB QM LM base b1 (bs ++ [34])) := HW1.out.below HBc.out
  have HO1 : Hid (b1.ownBlock ≠ some w1.heap.size) := show _ ≠ _ from fun e => by
    obtain ⟨_, _, _, h⟩ := owns_form HW1.out.own
    have := (h _ e).2
    omega
  have HF0 : Hid (FrV WB WB buf b1 w wc) := HF1.out.below HBc.out
  obtain ⟨CB, hCB⟩ : ∃ CB, w1.heap.size = CB := ⟨_, rfl⟩
  rw [hCB] at hcv HCc HO1 hsz1 HZc
  clear hwc hcp HBc HF1 HW1
  go_wp2
  clear hcv hCB
  go_loopw [12] (fun ii wr => ∃ (q : Nat) (b' : Value), q ≤ s.size ∧ ii = .int .i64 q ∧ Hid (QuR wc wr WB QM LM base b1 b' (bs ++ [34] ++ quB' (s.data.toList.take q)))) (fun ii _ => s.size - (intOf ii).toNat)
  case atStart => exact ⟨0, b1, Nat.zero_le _, rfl, ⟨by simpa [quB'] using HWc.out, FrV.refl _ _ _ _⟩⟩
  case round =>
    obtain ⟨q, b', hq, rfl, HR⟩ := hrel
    have hszr : base ≤ wr.heap.size := by have := HR.out.fr.only.size; have := HZc.out; omega
    by_cases hlt : q < s.size
    · obtain ⟨x, hx⟩ : ∃ x, s.data.toList.getD q 0 = x := ⟨_, rfl⟩
      have hcell : wr.cell? ⟨CB, q, none⟩ = some (.int .u8 (x.toNat : Int)) := by
        have h1 := HCc.out q hlt
        rw [hx] at h1
        obtain ⟨o, ho⟩ : ∃ o, wc.heap[CB]? = some o := ⟨wc.heap[CB]'(by have := HZc.out; omega), Array.getElem?_eq_getElem _⟩
        have h2 := HR.out.fr.blk ho (by omega) (by omega) HO1.out
        rw [World.cell?_of_block (a := ⟨CB, q, none⟩) (h2.trans ho.symm)]
        exact h1
      have HT : Hid (quB' (s.data.toList.take (q + 1)) = quB' (s.data.toList.take q) ++ quB x) := by
        show _ = _
        have hl : s.data.toList[q]? = some x := by
          have hl' : q < s.data.toList.length := by rw [str_len]; exact hlt
          rw [← hx, List.getD_eq_getElem?_getD, List.getElem?_eq_getElem hl']
          rfl
        rw [List.take_add_one, hl, ← quB'_snoc]
        rfl
      have HL : Hid ((bs ++ [34] ++ quB' (s.data.toList.take q)).length + 3 ≤ 140737488355328) := by
        have h1 := quB'_len (s.data.toList.take q)
        have h2 : (s.data.toList.take q).length ≤ s.size := by rw [List.length_take, str_len]; omega
        show _ ≤ _
        simp only [List.length_append, List.length_cons, List.length_nil]
        omega
      obtain ⟨acc, hacc⟩ : ∃ acc, bs ++ [34] ++ quB' (s.data.toList.take q) = acc := ⟨_, rfl⟩
      have HA : Hid (bs ++ [34] ++ quB' (s.data.toList.take (q + 1)) = acc ++ quB x) := by show _ = _; rw [HT.out, ← hacc]; simp only [List.append_assoc]
      rw [hacc] at HR HL
      clear hacc HT hx
      have hxb : x.toNat < 256 := x.toNat_lt
      have HQW : Hid (WrS wr WB QM LM base b' acc) := HR.out.st
      have hown : b'.ownBlock ≠ some wr.heap.size := fun e => by
        obtain ⟨_, _, _, h⟩ := owns_form HQW.out.own
        have := (h _ e).2
        omega
      have HOW : Hid _ := hown
      clear hown
      by_cases ha : x = 34 ∨ x = 92
      · have HE : Hid (quB x = [92, x]) := quB_a ha
        have fin : ∀ (w2 : World) (b2 : Value), WrS w2 WB QM LM base b2 (acc ++ [92, x]) → FrV WB WB b' b2 (wr.alloc (.cells #[.int .u8 92, .int .u8 (x.toNat : Int)] 5)) w2 → QuR wc w2 WB QM LM base b1 b2 (bs ++ [34] ++ quB' (s.data.toList.take (q + 1))) := fun w2 b2 h1 h2 => by
          rw [HA.out, HE.out]
          exact ⟨h1, HR.out.fr.trans ((FrV.first (below_alloc _ _)).trans h2)⟩
        have HFin : Hid _ := fin
        have hcall := write_any WB QM LM base b' acc [92, x] wr.heap.size 2 2 (wr.alloc (.cells #[.int .u8 92, .int .u8 (x.toNat : Int)] 5)) hB (by simp; omega) rfl (by omega) (by have := HL.out; omega) (heap_alloc_new wr _) (by omega) HOW (HQW.out.below (below_alloc _ _))
        clear fin
        rcases ha with rfl | rfl
        · go_wp2_with (go_at_call 128; refine hcall.mono ?_)
          rintro e w2 ⟨rfl, b2, hW2, hF2⟩
          have HN : Hid _ := HFin.out w2 b2 hW2 hF2
          clear hW2 hF2 hcall hcell
          go_wp2
          go_roundw
          case rel => exact ⟨q + 1, b2, by omega, by go_num, HN⟩
          case measure => simp [intOf]; omega
        · go_wp2_with (go_at_call 128; refine hcall.mono ?_)
          rintro e w2 ⟨rfl, b2, hW2, hF2⟩
          have HN : Hid _ := HFin.out w2 b2 hW2 hF2
          clear hW2 hF2 hcall hcell
          go_wp2
          go_roundw
          case rel => exact ⟨q + 1, b2, by omega, by go_num, HN⟩
          case measure => simp [intOf]; omega
      · have n1 : ¬ ((x.toNat : Int) = 34) := fun e => ha (Or.inl (by apply UInt8.toNat.inj; show x.toNat = 34; omega))
        have n2 : ¬ ((x.toNat : Int) = 92) := fun e => ha (Or.inr (by apply UInt8.toNat.inj; show x.toNat = 92; omega))
        have e1 : ((x.toNat : Int) == 34) = false := by simpa using n1
        have e2 : ((x.toNat : Int) == 92) = false := by simpa using n2
        by_cases hb : x.toNat < 32 ∨ 126 < x.toNat
        · have HE : Hid (quB x = [92, hexB (x.toNat / 16), hexB (x.toNat % 16)]) := quB_b ha hb
          have hm := mustEscape_any x.toNat
          rw [decide_eq_true hb] at hm
          have hi1 := hex_run (d := x.toNat / 16) (by omega)
          have hi2 := hex_run (d := x.toNat % 16) (by omega)
          obtain ⟨y, hy⟩ : ∃ y, hexB (x.toNat / 16) = y := ⟨_, rfl⟩
          obtain ⟨z, hz⟩ : ∃ z, hexB (x.toNat % 16) = z := ⟨_, rfl⟩
          rw [hy] at hi1 HE
          rw [hz] at hi2 HE
          obtain ⟨d1, hd1e⟩ : ∃ d : Int, ((x.toNat / 16 : Nat) : Int) = d := ⟨_, rfl⟩
          obtain ⟨d2, hd2e⟩ : ∃ d : Int, ((x.toNat % 16 : Nat) : Int) = d := ⟨_, rfl⟩
          have hd1 : IntKind.u8.wrap ((x.toNat : Int) / 16) = d1 := by rw [wrapU8 (by omega) (by omega), ← hd1e]; omega
          have hd2 : (x.toNat : Int).tmod 16 = d2 := (Int.ofNat_tmod x.toNat 16).symm.trans hd2e
          rw [hd1e] at hi1
          rw [hd2e] at hi2
          have HI : Hid ((∀ w, (Instr.index 9 (.string hexS) (.int .u8 d1)).run Tryz.prog w = .ok (.int .u8 (y.toNat : Int)) w) ∧ (∀ w, (Instr.index 9 (.string hexS) (.int .u8 d2)).run Tryz.prog w = .ok (.int .u8 (z.toNat : Int)) w) ∧ IntKind.u8.wrap ((x.toNat : Int) / 16) = d1 ∧ (x.toNat : Int).tmod 16 = d2) := ⟨hi1, hi2, hd1, hd2⟩
          have HFin : Hid (∀ (w2 : World) (b2 : Value), WrS w2 WB QM LM base b2 (acc ++ [92, y, z]) → FrV WB WB b' b2 (wr.drew.alloc (.cells #[.int .u8 92, .int .u8 (y.toNat : Int), .int .u8 (z.toNat : Int)] 5)) w2 → QuR wc w2 WB QM LM base b1 b2 (bs ++ [34] ++ quB' (s.data.toList.take (q + 1)))) := fun w2 b2 h1 h2 => by
            rw [HA.out, HE.out]
            exact ⟨h1, HR.out.fr.trans (((FrV.first (Below.refl _ _).drew).below (below_alloc _ _)).trans h2)⟩
          have hcall := write_any WB QM LM base b' acc [92, y, z] wr.heap.size 3 3 (wr.drew.alloc (.cells #[.int .u8 92, .int .u8 (y.toNat : Int), .int .u8 (z.toNat : Int)] 5)) hB (Nat.le_trans hszr ((Below.refl wr.heap.size wr).drew.alloc (Nat.le_refl _) _).size) rfl (by omega) (by have := HL.out; omega) (heap_alloc_new wr.drew _) (by omega) HOW (HQW.out.below ((Below.refl _ _).drew.alloc (Nat.le_refl _) _))
          clear hi1 hi2 hd1 hd2 hd1e hd2e hy hz hb ha n1 n2
          go_wp2_with (go_at_call 129; refine (hm _).mono ?_; rintro e w' ⟨rfl, rfl⟩)
          refine wp_region_held_drew (S := fun _ => True) (by kernel_rfl) trivial (fun hHeld => ?_)
          refine wpT (i := 0) (v := .pointer (some ⟨WB, 0, none⟩)) rfl (fun w hSw => ?_) hHeld ?_
          · first | rfl | go_simp
          simp only [Act.put, pz]
          refine wpT (i := 1) (v := .pointer (some ⟨WB, 0, none⟩)) rfl (fun w hSw => ?_) hHeld ?_
          · first | rfl | go_simp
          simp only [Act.put, pz]
          refine wpT (i := 2) (v := .pointer (some ⟨WB, 2, none⟩)) rfl (fun w hSw => ?_) hHeld ?_
          · first | rfl | go_simp
          simp only [Act.put, pz]
          refine wpT (i := 3) (v := .int .u8 (x.toNat : Int)) rfl (fun w hSw => ?_) hHeld ?_
          · first | rfl | go_simp
          simp only [Act.put, pz]
          refine wpT (i := 4) (v := .int .u8 d1) rfl (fun w hSw => ?_) hHeld ?_
          · go_simp
            exact HI.out.2.2.1
          simp only [Act.put, pz]
          refine wpT (i := 5) (v := .int .u8 (y.toNat : Int)) rfl (fun w hSw => ?_) hHeld ?_
          · have s1 := HI.out.1 w
            first | rfl | go_simp
          simp only [Act.put, pz]
          refine wpT (i := 6) (v := .int .u8 (x.toNat : Int)) rfl (fun w hSw => ?_) hHeld ?_
          · first | rfl | go_simp
          simp only [Act.put, pz]
          refine wpT (i := 7) (v := .int .u8 d2) rfl (fun w hSw => ?_) hHeld ?_
          · go_simp
            exact HI.out.2.2.2
          simp only [Act.put, pz]
          refine wpT (i := 8) (v := .int .u8 (z.toNat : Int)) rfl (fun w hSw => ?_) hHeld ?_
          · have s1 := HI.out.2.1 w
            first | rfl | go_simp
          simp only [Act.put, pz]
          refine wpAnyH_ready (rs := [9]) (by kernel_rfl) (by simp) ?_
          refine AllReadyH.cons rfl (fun K' hK' => ?_) AllReadyH.nil
          go_simp
          refine hK'.out _ _ trivial (fun hHeld => ?_)
          clear hK'
          refine wpAnyH_ready (rs := [10]) (by kernel_rfl) (by simp) ?_
          refine AllReadyH.cons rfl (fun K' hK' => ?_) AllReadyH.nil
          go_simp
          refine hcall.mono ?_
          clear hcall
          rintro e w2 ⟨rfl, b2, hW2, hF2⟩
          have HN : Hid _ := HFin.out w2 b2 hW2 hF2
          refine hK'.out _ _ trivial (fun hHeld => ?_)
          clear hK' hHeld hW2 hF2 hcell
          refine wpAnyH_done (by kernel_rfl) ?_ _
          go_wp2
          go_roundw
          case rel => exact ⟨q + 1, b2, by omega, by go_num, HN⟩
          case measure => simp [intOf]; omega
        · have HE : Hid (quB x = [x]) := quB_c ha hb
          have hm := mustEscape_any x.toNat
          rw [decide_eq_false hb] at hm
          have hcall := writeByte_any WB QM LM base b' acc x (x.toNat : Int) rfl wr hB (by omega) (by have := HL.out; omega) HQW
          clear hb ha n1 n2
          go_wp2_with (first
            | (go_at_call 129; refine (hm _).mono ?_; rintro e w' ⟨rfl, rfl⟩)
            | (go_at_call 130; refine hcall.mono ?_; rintro e w2 ⟨rfl, b2, hW2, hF2⟩))
          have HN : Hid (QuR wc w2 WB QM LM base b1 b2 (bs ++ [34] ++ quB' (s.data.toList.take (q + 1)))) := by
            show QuR _ _ _ _ _ _ _ _ _
            rw [HA.out, HE.out]
            exact ⟨hW2, HR.out.fr.trans hF2⟩
          clear hW2 hF2 hcall hcell
          go_wp2
          go_roundw
          case rel => exact ⟨q + 1, b2, by omega, by go_num, HN⟩
          case measure => simp [intOf]; omega
    · obtain rfl : q = s.size := by omega
      have HT : Hid (s.data.toList.take s.size = s.data.toList) := List.take_of_length_le (by rw [str_len]; exact Nat.le_refl _)
      rw [HT.out] at HR
      obtain ⟨acc, hacc⟩ : ∃ acc, bs ++ [34] ++ quB' s.data.toList = acc := ⟨_, rfl⟩
      have HA : Hid (acc ++ [34] = bs ++ quT s) := by show _ = _; rw [← hacc]; simp [quT]
      have HL : Hid (acc.length + 1 ≤ 140737488355328) := by
        have h1 := quB'_len s.data.toList
        have h2 := str_len s
        show _ ≤ _
        rw [← hacc]
        simp only [List.length_append, List.length_cons, List.length_nil]
        omega
      rw [hacc] at HR
      have hq1 : catS [⟨#[34]⟩] = [34] := rfl
      go_wp2_with (go_at_call 91; refine (wput_any WB QM LM base b' acc [⟨#[34]⟩] wr.heap.size 1 1 (wr.alloc (.cells #[.string ⟨#[34]⟩] 9)) rfl hB (by simp; omega) (by rw [hq1]; exact HL.out) (by omega) (pcs_new wr _) (by omega) (HR.out.st.below (below_alloc _ _))).mono ?_)
      rintro e w3 ⟨rfl, b3, hW3, hF3⟩
      rw [hq1, HA.out] at hW3
      have HW3 : Hid _ := hW3
      have HF3 : Hid _ := HF0.out.trans (HR.out.fr.trans ((FrV.first (below_alloc _ _)).trans hF3))
      clear hW3 hF3
      go_wp2
      go_end0
      exact ⟨rfl, b3, HW3.out, HF3.out⟩

end Go.Proofs.YtgflalfiopnmnaaGreatDoor
