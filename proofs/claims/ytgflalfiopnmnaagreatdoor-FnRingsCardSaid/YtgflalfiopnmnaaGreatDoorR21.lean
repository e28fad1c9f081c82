import Derived.Test.YtgflalfiopnmnaaGreatDoorR1
import Derived.Test.YtgflalfiopnmnaaGreatDoorR13
import Derived.Lib.Builder
import Derived.Lib.AppendStr
import Derived.Lib.UnsafeStr
import Derived.Laws.Externs
import Derived.Deep.AppendLies
import Derived.Lib.ConvBytes
import Derived.Shelf.Strconv.Itoa4
import Derived.Test.YtgflalfiopnmnaaGreatDoorVlAs
import Derived.Lib.AppendIntMem
namespace Go.Proofs.YtgflalfiopnmnaaGreatDoor
open Go.RowKit Vl

/-! A builder that lies in a field: the program's writer. -/

abbrev pW (WB : Nat) : Value := .pointer (some ⟨WB, 2, none⟩)

/-- The writer: its leads, its labels, and what has been written. -/
structure WrS (w : World) (WB QM LM base : Nat) (buf : Value) (bs : List UInt8) : Prop where
  blk : ∃ p, (p = .pointer none ∨ p = pW WB) ∧ w.heap[WB]? = some (.cells #[.map (some QM), .map (some LM), p, buf] 74 (0, 0))
  own : w.ownsRow base 5 1 buf bs.length (Lib.byteCells bs)

theorem four_at {w : World} {B : Nat} {a b c d : Value} {t : TypeId} (H : w.heap[B]? = some (.cells #[a, b, c, d] t (0, 0))) :
    w.cell? ⟨B, 0, none⟩ = some a ∧ w.cell? ⟨B, 1, none⟩ = some b ∧ w.cell? ⟨B, 2, none⟩ = some c ∧ w.cell? ⟨B, 3, none⟩ = some d ∧ w.shape? B = some (t, 4) ∧ ∀ i, w.frozen? ⟨B, i, none⟩ = false := by
  refine ⟨?_, ?_, ?_, ?_, ?_, fun i => ?_⟩ <;> simp [World.cell?, World.frozen?, World.shape?, H]

theorem WrS.lt {w : World} {WB QM LM base : Nat} {buf : Value} {bs : List UInt8} (h : WrS w WB QM LM base buf bs) : WB < w.heap.size := by
  obtain ⟨p, _, hb⟩ := h.blk
  exact blk_lt hb
theorem WrS.below {w w' : World} {WB QM LM base : Nat} {buf : Value} {bs : List UInt8} (h : WrS w WB QM LM base buf bs) (hb : Below w.heap.size w w') : WrS w' WB QM LM base buf bs := by
  obtain ⟨p, hp, hB⟩ := h.blk
  exact ⟨⟨p, hp, blkB hB hb⟩, (Only.below (P := fun _ => False) hb).owns h.own (fun _ _ _ h => h)⟩

theorem size_bld : ∃ j, Tryz.prog.info? 72 = some j ∧ j.size = 2 := by
  have h : (Tryz.prog.info? 72).map (fun i => i.size) = some 2 := by kernel_rfl
  cases hi : Tryz.prog.info? 72 with
  | none => rw [hi] at h; cases h
  | some j => rw [hi] at h; exact ⟨j, rfl, by simpa using h⟩
theorem Tryz.infoU8 : (Tryz.prog.info? 5).map (fun i => (i.zero, i.size, i.bytes)) = some (some (.int .u8 0), 1, 1) := by kernel_rfl

set_option maxHeartbeats 1000000 in
set_option maxRecDepth 100000 in
theorem copyCheck_used (b : Nat) (w : World) (h0 : w.cell? ⟨b, 2, none⟩ = some (pW b)) :
    Calls Tryz.prog 150 #[pW b] w fun e w' => e = .returned (.tuple #[]) ∧ w' = w := by
  obtain ⟨j, hj, _⟩ := size_bld
  go_enter Tryz.func150, Tryz.ntmps150
  go_wp2
  rw [Lib.run_neq_ptr_same w _ Tryz.underlying70 hj]
  go_wp2
  go_end0
  exact ⟨rfl, rfl⟩

set_option maxHeartbeats 1000000 in
set_option maxRecDepth 100000 in
theorem copyCheck_fresh (b : Nat) (w : World) (h0 : w.cell? ⟨b, 2, none⟩ = some (.pointer none)) (hsh : w.shape? b = some (74, 4)) (hfz : w.frozen? ⟨b, 2, none⟩ = false) :
    Calls Tryz.prog 150 #[pW b] w fun e w' => e = .returned (.tuple #[]) ∧ w' = w.setCell ⟨b, 2, none⟩ (pW b) := by
  obtain ⟨j, hj, hjs⟩ := size_bld
  go_enter Tryz.func150, Tryz.ntmps150
  go_wp2
  rw [Lib.run_to_unsafe w ⟨b, 2, none⟩ Tryz.underlying70 Tryz.underlying148 hj (by rw [hjs]; decide) hsh (show 2 < 4 by decide)]
  simp only [Result.andThen]
  rw [Oper.upon_value]
  go_wp2
  rw [run_callFunc_extern Tryz.func165 (by kernel_rfl) (by kernel_rfl) (by kernel_rfl) (e := Extern.AbiNoEscape.same) (by kernel_rfl)]
  rw [Lib.run_noEscape]
  simp only [Result.andThen]
  rw [Oper.upon_value]
  go_wp2
  rw [Lib.run_from_unsafe w ⟨b, 2, none⟩ Tryz.underlying148 Tryz.underlying70 hj hsh (by kernel_rfl)]
  simp only [Result.andThen]
  rw [Oper.upon_value]
  go_wp2
  go_end0
  exact ⟨rfl, rfl⟩

/-- Behind it the builder has its own address. -/
structure WrU (w : World) (WB QM LM base : Nat) (buf : Value) (bs : List UInt8) : Prop where
  blk : w.heap[WB]? = some (.cells #[.map (some QM), .map (some LM), pW WB, buf] 74 (0, 0))
  own : w.ownsRow base 5 1 buf bs.length (Lib.byteCells bs)

theorem copyCheck_any (WB QM LM base : Nat) (buf : Value) (bs : List UInt8) (w : World) (hB : WB < base) (H : WrS w WB QM LM base buf bs) :
    Calls Tryz.prog 150 #[pW WB] w fun e w' => e = .returned (.tuple #[]) ∧ WrU w' WB QM LM base buf bs ∧ FrV WB WB buf buf w w' ∧ w'.heap.size = w.heap.size := by
  obtain ⟨p, hp, hb⟩ := H.blk
  obtain ⟨c0, c1, c2, c3, hsh, hfz⟩ := four_at hb
  rcases hp with rfl | rfl
  · refine (copyCheck_fresh WB w c2 hsh (hfz 2)).mono ?_
    rintro e w' ⟨rfl, rfl⟩
    refine ⟨rfl, ⟨?_, ?_⟩, ⟨(Only.refl _ _).set (Or.inl rfl) _, fun _ _ h => h⟩, by simp [World.setCell]⟩
    · simp [World.setCell, Array.getElem?_modify, hb]
    · refine ownsRow_setCell_other H.own (fun e => ?_) _
      obtain ⟨_, _, _, hk⟩ := owns_form H.own
      have := (hk _ e).1
      simp only at *
      omega
  · refine (copyCheck_used WB w c2).mono ?_
    rintro e w' ⟨rfl, rfl⟩
    exact ⟨rfl, ⟨hb, H.own⟩, FrV.refl _ _ _ _, rfl⟩

theorem ownsRow_mono {w : World} {b b' e s n : Nat} {v : Value} {xs : List Value} (h : w.ownsRow b' e s v n xs) (hb : b ≤ b') : w.ownsRow b e s v n xs := by
  refine ⟨h.1, ?_⟩
  rcases h.2 with h2 | ⟨g, cap, cur, hv, hg, r⟩
  · exact Or.inl h2
  · exact Or.inr ⟨g, cap, cur, hv, Nat.le_trans hb hg, r⟩

/-- A string appended: the row is where it was, or new. -/
theorem append_str_lies (w : World) (base : Nat) (t u ty e : TypeId) (i : TypeInfo) (ht : Tryz.prog.underlying t = some (.slice e)) (hu : Tryz.prog.underlying u = some .string) (hi : Tryz.prog.info? e = some i) (hz : i.zero = some (.int .u8 0))
    (hsize : i.size = 1) (hby : i.bytes = 1) (v : Value) (n : Nat) (xs : List Value) (hown : w.ownsRow base e 1 v n xs) (s : ByteArray) (hbytes : n + s.size ≤ 140737488355328) (hbase : base ≤ w.heap.size) :
    ∃ v' w', (Builtin.append_ #[t, u] ty #[v, .string s]).run Tryz.prog w = .ok v' w' ∧ w'.ownsRow base e 1 v' (n + s.size) (xs ++ Lib.strCells s) ∧ w.grownBy w' v.ownBlock ∧ (∀ k, v'.ownBlock = some k → v.ownBlock = some k ∨ w.heap.size ≤ k) := by
  have h63 : n + s.size ≤ maxLen := by unfold maxLen; omega
  rcases hown.2 with ⟨rfl, rfl⟩ | ⟨g, cap, cur, rfl, hbg, hg, hnc, hcm, hcs, htake⟩
  · have hown' : w.ownsRow w.heap.size e 1 (.slice none 0 0) 0 xs := ⟨hown.1, Or.inl ⟨rfl, rfl⟩⟩
    obtain ⟨v', w', hr, h1, h2, _⟩ := Lib.run_append_own_string (P := Tryz.prog) w w.heap.size t u ty e i ht hu hi hz hsize hby _ 0 xs hown' s h63 hbytes (Nat.le_refl _)
    refine ⟨v', w', hr, ownsRow_mono h1 hbase, h2, fun k hk => Or.inr ?_⟩
    obtain ⟨_, _, _, h⟩ := owns_form h1
    exact (h k hk).1
  · obtain ⟨v', w', hr, h1, h2, _⟩ := Lib.run_append_own_string (P := Tryz.prog) w base t u ty e i ht hu hi hz hsize hby _ n xs hown s h63 hbytes hbase
    refine ⟨v', w', hr, h1, h2, fun k hk => ?_⟩
    have hxl : xs.length = n := by simpa using hown.1
    by_cases hroom : n + s.size ≤ cap
    · have hr' := Lib.run_append_room_string (P := Tryz.prog) w t u ty e i ht hu hi hsize g n cap cur hg s hroom (by omega)
      rw [hr] at hr'
      simp only [Result.ok.injEq] at hr'
      rw [hr'.1] at hk
      exact Or.inl hk
    · have holds : ∀ j u, xs[j]? = some u → w.cell? ((⟨g, 0, none⟩ : Addr).add j) = some u := hown.cells (g := g) rfl
      have hr' := Lib.run_append_grow_string (P := Tryz.prog) w t u ty e i (.int .u8 0) ht hu hi hz ⟨g, 0, none⟩ n cap xs (by rw [hsize]; simpa using hxl) holds s (by omega) (by omega) (by rw [hby]; exact growslice_fits (by omega) (by omega))
      rw [hr] at hr'
      simp only [Result.ok.injEq] at hr'
      rw [hr'.1] at hk
      simp only [Value.ownBlock, Option.some.injEq] at hk
      exact Or.inr (by omega)

theorem wpList_append_str {w : World} {ops : Array Oper} {rest : List Oper} {o : Oper} {a : Act} {Q : Exit → Act → World → Prop} (hgd : o.guard = none) (sl x : Operand) (t u : TypeId)
    (ho : o.op = .call { callee := .builtin .append, args := #[sl, x], argTypes := #[t, u] })
    (base : Nat) (e : TypeId) (i : TypeInfo) (ht : Tryz.prog.underlying t = some (.slice e)) (hu : Tryz.prog.underlying u = some .string) (hi : Tryz.prog.info? e = some i) (hz : i.zero = some (.int .u8 0))
    (hsize : i.size = 1) (hby : i.bytes = 1)
    (v : Value) (n : Nat) (xs : List Value) (hs : a.eval sl = v) (hown : w.ownsRow base e 1 v n xs) (s : ByteArray) (hx : a.eval x = .string s)
    (hbytes : n + s.size ≤ 140737488355328) (hbase : base ≤ w.heap.size)
    (h : ∀ v' w', w'.ownsRow base e 1 v' (n + s.size) (xs ++ Lib.strCells s) → w.grownBy w' v.ownBlock → (∀ k, v'.ownBlock = some k → v.ownBlock = some k ∨ w.heap.size ≤ k) → wpList Tryz.prog ops Q rest (a.put o.dst v') w') : wpList Tryz.prog ops Q (o :: rest) a w := by
  refine wpList_plain hgd fun K hK => ?_
  obtain ⟨v', w', hr, h2, h3, h4⟩ := append_str_lies w base t u o.type e i ht hu hi hz hsize hby v n xs hown s hbytes hbase
  unfold Oper.wp execOp
  simp only [ho, resolve, invoke, builtin, Sem.run_bind, Sem.run_pure, Result.andThen_ok, List.map_toArray, List.map_cons, List.map_nil, hs, hx, hr]
  exact hK _ _ (h v' w' h2 h3 h4)

/-- What an append leaves. -/
theorem WrU.put {w w3 : World} {WB QM LM base : Nat} {buf buf' : Value} {bs bs' : List UInt8} (h : WrU w WB QM LM base buf bs) (hB : WB < base) (hgrow : w.grownBy w3 buf.ownBlock)
    (hown : w3.ownsRow base 5 1 buf' bs'.length (Lib.byteCells bs')) (hat : ∀ k, buf'.ownBlock = some k → buf.ownBlock = some k ∨ w.heap.size ≤ k) :
    (w3.cell? ⟨WB, 3, none⟩ = some buf ∧ ∀ j, w3.frozen? ⟨WB, j, none⟩ = false) ∧ WrU (w3.setCell ⟨WB, 3, none⟩ buf') WB QM LM base buf' bs' ∧ FrV WB WB buf buf' w (w3.setCell ⟨WB, 3, none⟩ buf') := by
  obtain ⟨_, _, _, hk⟩ := owns_form h.own
  have n1 : buf.ownBlock ≠ some WB := fun e => by have := (hk _ e).1; omega
  have hblk := (hgrow.block WB (blk_lt h.blk) (fun e => n1 e.symm)).trans h.blk
  have hc := four_at hblk
  have ho : Only (fun k => k = WB ∨ k = WB ∨ buf.ownBlock = some k) w w3 := ⟨hgrow.os, hgrow.tape, hgrow.output, hgrow.size, fun k hk hp => hgrow.block k hk (fun e => hp (Or.inr (Or.inr e.symm)))⟩
  refine ⟨⟨hc.2.2.2.1, hc.2.2.2.2.2⟩, ⟨?_, ?_⟩, ⟨ho.set (Or.inl rfl) _, fun k hk' e => ?_⟩⟩
  · simp [World.setCell, Array.getElem?_modify, hblk]
  · refine ownsRow_setCell_other (a := ⟨WB, 3, none⟩) hown (fun e => ?_) _
    obtain ⟨_, _, _, hk2⟩ := owns_form hown
    have := (hk2 _ e).1
    simp only at *
    omega
  · rcases hat k e with h' | h'
    · exact h'
    · omega
theorem WrU.toS {w : World} {WB QM LM base : Nat} {buf : Value} {bs : List UInt8} (h : WrU w WB QM LM base buf bs) : WrS w WB QM LM base buf bs := ⟨⟨_, Or.inr rfl, h.blk⟩, h.own⟩

theorem str_cells (s : ByteArray) : Lib.strCells s = Lib.byteCells s.data.toList := rfl
theorem str_len (s : ByteArray) : s.data.toList.length = s.size := by rw [Array.length_toList]; rfl

set_option maxHeartbeats 2000000 in
set_option maxRecDepth 100000 in
/-- '(*strings.Builder).WriteString' in the writer. -/
theorem writeString_any (WB QM LM base : Nat) (buf : Value) (bs : List UInt8) (s : ByteArray) (w : World) (hB : WB < base) (hbw : base ≤ w.heap.size) (hlen : bs.length + s.size ≤ 140737488355328) (H : Hid (WrS w WB QM LM base buf bs)) :
    Calls Tryz.prog 124 #[pW WB, .string s] w fun e w' => e = .returned (.tuple #[.int .i64 s.size, .nilIface]) ∧ ∃ buf', WrS w' WB QM LM base buf' (bs ++ s.data.toList) ∧ FrV WB WB buf buf' w w' := by
  obtain ⟨i0, hi, hz0, hz1, hz2⟩ := info_parts Tryz.infoU8
  go_enter Tryz.func124, Tryz.ntmps124
  go_wp2_with (go_at_call 150; refine (copyCheck_any WB QM LM base buf bs w hB H.out).mono ?_)
  rintro e w1 ⟨rfl, hU, hF, hs1⟩
  have HU : Hid (WrU w1 WB QM LM base buf bs) := hU
  have HF : Hid (FrV WB WB buf buf w w1) := hF
  have HS : Hid (w1.heap.size = w.heap.size) := hs1
  obtain ⟨c0, c1, c2, c3, _, _⟩ := four_at hU.blk
  clear hU hF hs1
  go_wp2_with (at_builtin; refine wpList_append_str (by rfl) _ _ 22 9 (by rfl) base 5 i0 Tryz.underlying22 Tryz.underlying9 hi hz0 hz1 hz2 buf bs.length (Lib.byteCells bs) (by rfl) HU.out.own s (by rfl) hlen (by rw [HS.out]; exact hbw) ?_)
  intro buf' w2 hown hgrow hat
  obtain ⟨ao, cap, rfl, _⟩ := owns_form hown
  have hown' : w2.ownsRow base 5 1 (.slice ao (bs.length + s.size) cap) (bs ++ s.data.toList).length (Lib.byteCells (bs ++ s.data.toList)) := by
    rw [List.length_append, str_len, show Lib.byteCells (bs ++ s.data.toList) = Lib.byteCells bs ++ Lib.strCells s by simp [Lib.byteCells, Lib.strCells]]
    exact hown
  obtain ⟨⟨d3, dz⟩, hU2, hF2⟩ := HU.out.put hB hgrow hown' hat
  have HU2 : Hid _ := hU2
  have HF2 : Hid _ := HF.out.trans hF2
  have f3 := dz 3
  clear c0 c1 c2 c3 hU2 hF2 hown hown' hgrow hat dz
  go_wp2
  go_ret2
  exact ⟨rfl, _, HU2.out.toS, HF2.out⟩

end Go.Proofs.YtgflalfiopnmnaaGreatDoor

namespace Go.Proofs.YtgflalfiopnmnaaGreatDoor
open Go.RowKit Vl

theorem byteCells_one (bs : List UInt8) (b : UInt8) : Lib.byteCells (bs ++ [b]) = Lib.byteCells bs ++ [.int .u8 b.toNat] := by simp [Lib.byteCells]
theorem byteCells_app (bs cs : List UInt8) : Lib.byteCells (bs ++ cs) = Lib.byteCells bs ++ Lib.byteCells cs := by simp [Lib.byteCells]
theorem byteCells_len (bs : List UInt8) : (Lib.byteCells bs).length = bs.length := by simp [Lib.byteCells]

set_option maxHeartbeats 2000000 in
set_option maxRecDepth 100000 in
/-- '(*strings.Builder).WriteByte' in the writer. -/
theorem writeByte_any (WB QM LM base : Nat) (buf : Value) (bs : List UInt8) (b : UInt8) (bi : Int) (hbi : bi = (b.toNat : Int)) (w : World) (hB : WB < base) (hbw : base ≤ w.heap.size) (hlen : bs.length + 1 ≤ 140737488355328) (H : Hid (WrS w WB QM LM base buf bs)) :
    Calls Tryz.prog 130 #[pW WB, .int .u8 bi] w fun e w' => e = .returned .nilIface ∧ ∃ buf', WrS w' WB QM LM base buf' (bs ++ [b]) ∧ FrV WB WB buf buf' w w' := by
  obtain ⟨i0, hi, hz0, hz1, hz2⟩ := info_parts Tryz.infoU8
  have HB : Hid (bi = (b.toNat : Int)) := hbi
  clear hbi
  go_enter Tryz.func130, Tryz.ntmps130
  go_wp2_with (go_at_call 150; refine (copyCheck_any WB QM LM base buf bs w hB H.out).mono ?_)
  rintro e w1 ⟨rfl, hU, hF, hs1⟩
  have HU : Hid (WrU w1 WB QM LM base buf bs) := hU
  have HF : Hid (FrV WB WB buf buf w w1) := hF
  have HS : Hid (w1.heap.size = w.heap.size) := hs1
  obtain ⟨c0, c1, c2, c3, _, _⟩ := four_at hU.blk
  clear hU hF hs1
  go_wp2_with (at_builtin; refine wpList_append_lies _ (by rfl) _ _ 22 (by rfl) base 5 i0 (.int .u8 0) 1 1 Tryz.underlying22 hi hz0 hz1 hz2 (by rfl) (by omega) buf bs.length (Lib.byteCells bs) (by rfl) (HU.out.own.alloc _) ⟨w1.heap.size, 0, none⟩ 1 1 [.int .u8 bi] (by rfl) (by rfl) ?c1 ?c2 (by omega) ?c3 ?c4 ?c5 (w1.heap.size + 1) ?c6 ?_)
  case c1 => exact World.news_of_block (heap_alloc_new w1 _)
  case c2 => intro u hu; simp at hu; subst hu; rfl
  case c3 => unfold maxLen; omega
  case c4 => omega
  case c5 => have := HS.out; simp; omega
  case c6 => simp
  intro g cap w2 hown hgrow hat _
  have hown' : w2.ownsRow base 5 1 (.slice (some ⟨g, 0, none⟩) (bs.length + 1) cap) (bs ++ [b]).length (Lib.byteCells (bs ++ [b])) := by
    rw [byteCells_one, List.length_append, ← HB.out]
    exact hown
  have hba : Below w1.heap.size w1 (w1.alloc (.cells #[.int .u8 bi] 5)) := (Below.refl _ _).alloc (Nat.le_refl _) _
  have hUa : WrU (w1.alloc (.cells #[.int .u8 bi] 5)) WB QM LM base buf bs := ⟨blkB HU.out.blk hba, HU.out.own.alloc _⟩
  obtain ⟨⟨d3, dz⟩, hU2, hF2⟩ := hUa.put hB hgrow hown' (fun k hk => by
    simp only [Value.ownBlock, Option.some.injEq] at hk
    rcases hat with h | h
    · exact Or.inl (by rw [h, hk])
    · right; simp; omega)
  have HU2 : Hid _ := hU2
  have HF2 : Hid _ := (HF.out.below hba).trans hF2
  have f3 := dz 3
  clear c0 c1 c2 c3 hU2 hF2 hown hown' hgrow hat dz hba hUa
  go_wp2
  go_ret
  exact ⟨rfl, _, HU2.out.toS, HF2.out⟩

set_option maxHeartbeats 2000000 in
set_option maxRecDepth 100000 in
/-- '(*strings.Builder).Write' in the writer, of some bytes in a block of their own. -/
theorem write_any (WB QM LM base : Nat) (buf : Value) (bs cs : List UInt8) (PB m c : Nat) (w : World) (hB : WB < base) (hbw : base ≤ w.heap.size) (hm : cs.length = m) (hm0 : 0 < m) (hlen : bs.length + m ≤ 140737488355328)
    (HP : Hid (w.heap[PB]? = some (.cells (Lib.byteCells cs).toArray 5 (0, 0)))) (hPne : PB ≠ WB) (HPo : Hid (buf.ownBlock ≠ some PB)) (H : Hid (WrS w WB QM LM base buf bs)) :
    Calls Tryz.prog 128 #[pW WB, .slice (some ⟨PB, 0, none⟩) m c] w fun e w' => e = .returned (.tuple #[.int .i64 m, .nilIface]) ∧ ∃ buf', WrS w' WB QM LM base buf' (bs ++ cs) ∧ FrV WB WB buf buf' w w' := by
  obtain ⟨i0, hi, hz0, hz1, hz2⟩ := info_parts Tryz.infoU8
  have HM : Hid (cs.length = m) := hm
  clear hm
  go_enter Tryz.func128, Tryz.ntmps128
  go_wp2_with (go_at_call 150; refine (copyCheck_any WB QM LM base buf bs w hB H.out).mono ?_)
  rintro e w1 ⟨rfl, hU, hF, hs1⟩
  have HU : Hid (WrU w1 WB QM LM base buf bs) := hU
  have HF : Hid (FrV WB WB buf buf w w1) := hF
  have HS : Hid (w1.heap.size = w.heap.size) := hs1
  have HP1 : Hid (w1.heap[PB]? = some (.cells (Lib.byteCells cs).toArray 5 (0, 0))) := hF.blk HP.out hPne hPne HPo.out
  obtain ⟨c0, c1, c2, c3, _, _⟩ := four_at hU.blk
  clear hU hF hs1
  go_wp2_with (at_builtin; refine wpList_append_lies _ (by rfl) _ _ 22 (by rfl) base 5 i0 (.int .u8 0) 1 1 Tryz.underlying22 hi hz0 hz1 hz2 (by rfl) (by omega) buf bs.length (Lib.byteCells bs) (by rfl) HU.out.own ⟨PB, 0, none⟩ m c (Lib.byteCells cs) (by rfl) (by rw [byteCells_len, HM.out, Nat.mul_one]) ?c1 ?c2 hm0 ?c3 ?c4 ?c5 w1.heap.size ?c6 ?_)
  case c1 => exact World.news_of_block HP1.out
  case c2 => intro u hu; simp [Lib.byteCells] at hu; obtain ⟨x, _, rfl⟩ := hu; rfl
  case c3 => unfold maxLen; omega
  case c4 => omega
  case c5 => have := HS.out; omega
  case c6 => rfl
  intro g cap w2 hown hgrow hat _
  have hown' : w2.ownsRow base 5 1 (.slice (some ⟨g, 0, none⟩) (bs.length + m) cap) (bs ++ cs).length (Lib.byteCells (bs ++ cs)) := by
    rw [byteCells_app, List.length_append, HM.out]
    exact hown
  obtain ⟨⟨d3, dz⟩, hU2, hF2⟩ := HU.out.put hB hgrow hown' (fun k hk => by
    simp only [Value.ownBlock, Option.some.injEq] at hk
    rcases hat with h | h
    · exact Or.inl (by rw [h, hk])
    · right; omega)
  have HU2 : Hid _ := hU2
  have HF2 : Hid _ := HF.out.trans hF2
  have f3 := dz 3
  clear c0 c1 c2 c3 hU2 hF2 hown hown' hgrow hat dz
  go_wp2
  go_ret2
  exact ⟨rfl, _, HU2.out.toS, HF2.out⟩

set_option maxRecDepth 100000 in
/-- '(*writer).tooLong'. -/
theorem tooLong_any (WB QM LM base : Nat) (buf : Value) (bs : List UInt8) (w : World) (H : Hid (WrS w WB QM LM base buf bs)) :
    Calls Tryz.prog 27 #[.pointer (some ⟨WB, 0, none⟩)] w fun e w' => e = .returned (.bool (decide (20000 < bs.length))) ∧ w' = w := by
  obtain ⟨p, hp, hb⟩ := H.out.blk
  obtain ⟨c0, c1, c2, c3, _, _⟩ := four_at hb
  obtain ⟨ao, cap, rfl, _⟩ := owns_form H.out.own
  clear hb hp
  go_enter Tryz.func27, Tryz.ntmps27
  go_wp2
  go_ret
  refine ⟨?_, rfl⟩
  congr 2
  by_cases h : 20000 < bs.length
  · simp [h]; omega
  · simp [h]; omega

end Go.Proofs.YtgflalfiopnmnaaGreatDoor

namespace Go.Proofs.YtgflalfiopnmnaaGreatDoor
open Go.RowKit Vl

def catS (l : List ByteArray) : List UInt8 := l.flatMap fun s => s.data.toList
theorem catS_snoc (l : List ByteArray) (s : ByteArray) : catS (l ++ [s]) = catS l ++ s.data.toList := by simp [catS]
theorem catS_le : ∀ (l : List ByteArray) (c : Nat), (catS (l.take c)).length ≤ (catS l).length
  | [], c => by simp
  | s :: l, 0 => by simp [catS]
  | s :: l, c + 1 => by
    have := catS_le l c
    simp only [catS, List.take_succ_cons, List.flatMap_cons, List.length_append] at this ⊢
    omega

/-- A row of pieces. -/
def Pcs (w : World) (PB : Nat) (l : List ByteArray) : Prop := w.heap[PB]? = some (.cells (l.map Value.string).toArray 9 (0, 0))
theorem Pcs.cell {w : World} {PB : Nat} {l : List ByteArray} (h : Pcs w PB l) {c : Nat} {s : ByteArray} (hc : l[c]? = some s) : w.cell? ⟨PB, c, none⟩ = some (.string s) := by
  unfold Pcs at h
  simp [World.cell?, h, hc]
theorem Pcs.ne {w : World} {PB base : Nat} {l : List ByteArray} (h : Pcs w PB l) {buf : Value} {n : Nat} {xs : List Value} (ho : w.ownsRow base 5 1 buf n xs) : buf.ownBlock ≠ some PB := fun e => by
  obtain ⟨_, cur, hh⟩ := owns_type ho e
  unfold Pcs at h
  rw [h] at hh
  simp at hh

set_option maxHeartbeats 1000000 in
set_option maxRecDepth 100000 in
/-- '(*writer).put'. -/
theorem wput_any (WB QM LM base : Nat) (buf : Value) (bs : List UInt8) (l : List ByteArray) (PB m c : Nat) (w : World) (hm : l.length = m) (hB : WB < base) (hbw : base ≤ w.heap.size) (hlen : bs.length + (catS l).length ≤ 140737488355328) (hm1 : m ≤ 1000)
    (HP : Hid (Pcs w PB l)) (hP1 : PB ≠ WB) (H : Hid (WrS w WB QM LM base buf bs)) :
    Calls Tryz.prog 91 #[.pointer (some ⟨WB, 0, none⟩), .slice (some ⟨PB, 0, none⟩) m c] w fun e w' => e = .returned (.tuple #[]) ∧ ∃ buf', WrS w' WB QM LM base buf' (bs ++ catS l) ∧ FrV WB WB buf buf' w w' := by
  have HM : Hid (l.length = m) := hm
  have HLEN : Hid (bs.length + (catS l).length ≤ 140737488355328) := hlen
  clear hm hlen
  go_enter Tryz.func91, Tryz.ntmps91
  go_wp2
  go_loopw [8] (fun ii wr => ∃ (q : Nat) (b' : Value), q ≤ m ∧ ii = .int .i64 q ∧ Hid (WrS wr WB QM LM base b' (bs ++ catS (l.take q))) ∧ Hid (FrV WB WB buf b' w wr)) (fun ii _ => m - (intOf ii).toNat)
  case atStart => exact ⟨0, buf, Nat.zero_le _, rfl, by simpa [catS] using H, FrV.refl _ _ _ _⟩
  case round =>
    obtain ⟨q, b', hq, rfl, HW, HF⟩ := hrel
    by_cases hlt : q < m
    · obtain ⟨s, hs⟩ : ∃ s, l[q]? = some s := ⟨l[q]'(by rw [HM.out]; exact hlt), List.getElem?_eq_getElem _⟩
      have HPr : Hid (Pcs wr PB l) := HF.out.blk HP.out hP1 hP1 (HP.out.ne H.out.own)
      have hc := HPr.out.cell hs
      have HT : Hid (l.take (q + 1) = l.take q ++ [s]) := by show _ = _; rw [List.take_add_one, hs]; rfl
      have HL1 : Hid ((bs ++ catS (l.take q)).length + s.size ≤ 140737488355328) := by
        have h1 := catS_le l (q + 1)
        have h2 := HLEN.out
        rw [HT.out, catS_snoc, List.length_append, str_len] at h1
        show _ ≤ _
        rw [List.length_append]
        omega
      have hsz : base ≤ wr.heap.size := Nat.le_trans hbw HF.out.only.size
      go_wp2_with (go_at_call 124; refine (writeString_any WB QM LM base b' (bs ++ catS (l.take q)) s wr hB hsz HL1.out HW).mono ?_)
      rintro e w2 ⟨rfl, b2, hW2, hF2⟩
      have HW2 : Hid _ := hW2
      have HF2 : Hid _ := HF.out.trans hF2
      clear hW2 hF2 hc hs
      go_wp2
      go_roundw
      case rel => exact ⟨q + 1, b2, by omega, by go_num, by rw [HT.out, catS_snoc, ← List.append_assoc]; exact HW2, HF2⟩
      case measure => simp [intOf]; omega
    · obtain rfl : q = m := by omega
      go_wp2
      go_end0
      refine ⟨rfl, b', ?_, HF.out⟩
      have h := HW.out
      rw [List.take_of_length_le (by rw [HM.out]; exact Nat.le_refl _)] at h
      exact h

end Go.Proofs.YtgflalfiopnmnaaGreatDoor

namespace Go.Proofs.YtgflalfiopnmnaaGreatDoor
open Go.RowKit Vl

/-- One piece, laid anew. -/
theorem pcs_new (w : World) (s : ByteArray) : Pcs (w.alloc (.cells #[.string s] 9)) w.heap.size [s] := by
  unfold Pcs
  exact heap_alloc_new w _
theorem below_alloc (w : World) (o : Obj) : Below w.heap.size w (w.alloc o) := (Below.refl _ _).alloc (Nat.le_refl _) _

set_option maxRecDepth 100000 in
theorem mustEscape_any (b : Nat) (w : World) : Calls Tryz.prog 129 #[.int .u8 (b : Int)] w fun e w' => e = .returned (.bool (decide (b < 32 ∨ 126 < b))) ∧ w' = w := by
  by_cases h1 : b < 32
  · have g1 : ((b : Int) < 32) := by omega
    have hR : Hid (decide (b < 32 ∨ 126 < b) = true) := show _ = _ by simp [h1]
    rw [hR.out]
    clear h1
    go_enter Tryz.func129, Tryz.ntmps129
    go_wp2
    go_ret
    exact ⟨by first | rfl | simp, rfl⟩
  · have g1 : ¬ ((b : Int) < 32) := by omega
    by_cases h2 : 126 < b
    · have g2 : ((126 : Int) < (b : Int)) := by omega
      have hR : Hid (decide (b < 32 ∨ 126 < b) = true) := show _ = _ by simp [h2]
      rw [hR.out]
      clear h1 h2
      go_enter Tryz.func129, Tryz.ntmps129
      go_wp2
      go_ret
      exact ⟨by first | rfl | simp, rfl⟩
    · have g2 : ¬ ((126 : Int) < (b : Int)) := by omega
      have hR : Hid (decide (b < 32 ∨ 126 < b) = false) := show _ = _ by simp [h1, h2]
      rw [hR.out]
      clear h1 h2
      go_enter Tryz.func129, Tryz.ntmps129
      go_wp2
      go_ret
      exact ⟨by first | rfl | simp, rfl⟩

abbrev hexS : ByteArray := ⟨#[48, 49, 50, 51, 52, 53, 54, 55, 56, 57, 97, 98, 99, 100, 101, 102]⟩
theorem lt16 {P : Nat → Prop} (h : ∀ d, d ∈ [0, 1, 2, 3, 4, 5, 6, 7, 8, 9, 10, 11, 12, 13, 14, 15] → P d) {d : Nat} (hd : d < 16) : P d := by
  refine h d ?_
  have : d = 0 ∨ d = 1 ∨ d = 2 ∨ d = 3 ∨ d = 4 ∨ d = 5 ∨ d = 6 ∨ d = 7 ∨ d = 8 ∨ d = 9 ∨ d = 10 ∨ d = 11 ∨ d = 12 ∨ d = 13 ∨ d = 14 ∨ d = 15 := by omega
  rcases this with rfl | rfl | rfl | rfl | rfl | rfl | rfl | rfl | rfl | rfl | rfl | rfl | rfl | rfl | rfl | rfl <;> simp
theorem hex_run {d : Nat} (hd : d < 16) (w : World) : (Instr.index 9 (.string hexS) (.int .u8 (d : Int))).run Tryz.prog w = .ok (.int .u8 ((hexB d).toNat : Int)) w := by
  refine lt16 (P := fun d => (Instr.index 9 (.string hexS) (.int .u8 (d : Int))).run Tryz.prog w = .ok (.int .u8 ((hexB d).toNat : Int)) w) (fun d hd => ?_) hd
  simp only [List.mem_cons, List.not_mem_nil, or_false] at hd
  rcases hd with rfl | rfl | rfl | rfl | rfl | rfl | rfl | rfl | rfl | rfl | rfl | rfl | rfl | rfl | rfl | rfl <;> kernel_rfl
theorem wrapU8 {n : Int} (h0 : 0 ≤ n) (h1 : n < 256) : IntKind.u8.wrap n = n := by
  unfold IntKind.wrap
  simp [IntKind.bits, IntKind.signed]
  omega
end Go.Proofs.YtgflalfiopnmnaaGreatDoor

namespace Go.Proofs.YtgflalfiopnmnaaGreatDoor
open Go.RowKit Vl

theorem quB_a {x : UInt8} (h : x = 34 ∨ x = 92) : quB x = [92, x] := by unfold quB; rw [if_pos h]
theorem quB_b {x : UInt8} (h : ¬ (x = 34 ∨ x = 92)) (h2 : x.toNat < 32 ∨ 126 < x.toNat) : quB x = [92, hexB (x.toNat / 16), hexB (x.toNat % 16)] := by unfold quB; rw [if_neg h, if_pos h2]
theorem quB_c {x : UInt8} (h : ¬ (x = 34 ∨ x = 92)) (h2 : ¬ (x.toNat < 32 ∨ 126 < x.toNat)) : quB x = [x] := by unfold quB; rw [if_neg h, if_neg h2]

/-- The loop's state. -/
structure QuR (wc wr : World) (WB QM LM base : Nat) (b1 b' : Value) (acc : List UInt8) : Prop where
  st : WrS wr WB QM LM base b' acc
  fr : FrV WB WB b1 b' wc wr

set_option maxHeartbeats 2000000 in
set_option maxRecDepth 100000 in
/-- '(*writer).quote'. -/
theorem quote_any (WB QM LM base : Nat) (buf : Value) (bs : List UInt8) (s : ByteArray) (w : World) (hB : WB < base) (hbw : base ≤ w.heap.size) (hs : s.size ≤ 1000000) (hlen : bs.length ≤ 1000000000) (H : Hid (WrS w WB QM LM base buf bs)) :
    Calls Tryz.prog 96 #[.pointer (some ⟨WB, 0, none⟩), .string s] w fun e w' => e = .returned (.tuple #[]) ∧ ∃ buf', WrS w' WB QM LM base buf' (bs ++ quT s) ∧ FrV WB WB buf buf' w w' := by
  have hq1 : catS [⟨#[34]⟩] = [34] := rfl
  go_enter Tryz.func96, Tryz.ntmps96
  go_wp2_with (go_at_call 91; refine (wput_any WB QM LM base buf bs [⟨#[34]⟩] w.heap.size 1 1 (w.alloc (.cells #[.string ⟨#[34]⟩] 9)) rfl hB (by simp; omega) (by rw [hq1]; simp; omega) (by omega) (pcs_new w _) (by omega) (H.out.below (below_alloc _ _))).mono ?_)
  rintro e w1 ⟨rfl, b1, hW1, hF1⟩
  rw [hq1] at hW1
  have HW1 : Hid (WrS w1 WB QM LM base b1 (bs ++ [34])) := hW1
  have HF1 : Hid (FrV WB WB buf b1 w w1) := (FrV.first (below_alloc _ _)).trans hF1
  have hsz1 : base ≤ w1.heap.size := Nat.le_trans hbw HF1.out.only.size
  clear hW1 hF1 hq1
  have hcv := Lib.run_convert_string_bytes (P := Tryz.prog) w1 9 22 5 s Tryz.underlying9 Tryz.underlying22 Tryz.underlying5
  obtain ⟨cp, hcp⟩ : ∃ cp, grownCap w1 s.size 0 5 = cp := ⟨_, rfl⟩
  obtain ⟨wc, hwc⟩ : ∃ wc, Lib.bytesWorld w1 5 s = wc := ⟨_, rfl⟩
  rw [hcp, hwc] at hcv
  have HBc : Hid (Below w1.heap.size w1 wc) := by
    rw [← hwc]
    exact ⟨rfl, rfl, rfl, by rw [Lib.bytesWorld_size]; omega, fun j hj => Lib.bytesWorld_at_old w1 _ s j hj⟩
  have HCc : Hid (∀ j, j < s.size → wc.cell? ⟨w1.heap.size, j, none⟩ = some (.int .u8 (s.data.toList.getD j 0).toNat)) := by
    rw [← hwc]
    exact fun j hj => Lib.bytesWorld_cell w1 _ s j hj
  have HZc : Hid (wc.heap.size = w1.heap.size + 1) := by rw [← hwc]; exact Lib.bytesWorld_size w1 _ s
  have HWc : Hid (WrS wc WB QM LM base b1 (bs ++ [34])) := HW1.out.below HBc.out
  have HO1 : Hid (b1.ownBlock ≠ some w1.heap.size) := show _ ≠ _ from fun e => by
    obtain ⟨_, _, _, h⟩ := owns_form HW1.out.own
    have := (h _ e).2
    omega
  have HF0 : Hid (FrV WB WB buf b1 w wc) := HF1.out.below HBc.out
  obtain ⟨CB, hCB⟩ : ∃ CB, w1.heap.size = CB := ⟨_, rfl⟩
  rw [hCB] at hcv HCc HO1 hsz1 HZc
  clear hwc hcp HBc HF1 HW1
  go_wp2
  clear hcv hCB
  go_loopw [12] (fun ii wr => ∃ (q : Nat) (b' : Value), q ≤ s.size ∧ ii = .int .i64 q ∧ Hid (QuR wc wr WB QM LM base b1 b' (bs ++ [34] ++ quB' (s.data.toList.take q)))) (fun ii _ => s.size - (intOf ii).toNat)
  case atStart => exact ⟨0, b1, Nat.zero_le _, rfl, ⟨by simpa [quB'] using HWc.out, FrV.refl _ _ _ _⟩⟩
  case round =>
    obtain ⟨q, b', hq, rfl, HR⟩ := hrel
    have hszr : base ≤ wr.heap.size := by have := HR.out.fr.only.size; have := HZc.out; omega
    by_cases hlt : q < s.size
    · obtain ⟨x, hx⟩ : ∃ x, s.data.toList.getD q 0 = x := ⟨_, rfl⟩
      have hcell : wr.cell? ⟨CB, q, none⟩ = some (.int .u8 (x.toNat : Int)) := by
        have h1 := HCc.out q hlt
        rw [hx] at h1
        obtain ⟨o, ho⟩ : ∃ o, wc.heap[CB]? = some o := ⟨wc.heap[CB]'(by have := HZc.out; omega), Array.getElem?_eq_getElem _⟩
        have h2 := HR.out.fr.blk ho (by omega) (by omega) HO1.out
        rw [World.cell?_of_block (a := ⟨CB, q, none⟩) (h2.trans ho.symm)]
        exact h1
      have HT : Hid (quB' (s.data.toList.take (q + 1)) = quB' (s.data.toList.take q) ++ quB x) := by
        show _ = _
        have hl : s.data.toList[q]? = some x := by
          have hl' : q < s.data.toList.length := by rw [str_len]; exact hlt
          rw [← hx, List.getD_eq_getElem?_getD, List.getElem?_eq_getElem hl']
          rfl
        rw [List.take_add_one, hl, ← quB'_snoc]
        rfl
      have HL : Hid ((bs ++ [34] ++ quB' (s.data.toList.take q)).length + 3 ≤ 140737488355328) := by
        have h1 := quB'_len (s.data.toList.take q)
        have h2 : (s.data.toList.take q).length ≤ s.size := by rw [List.length_take, str_len]; omega
        show _ ≤ _
        simp only [List.length_append, List.length_cons, List.length_nil]
        omega
      obtain ⟨acc, hacc⟩ : ∃ acc, bs ++ [34] ++ quB' (s.data.toList.take q) = acc := ⟨_, rfl⟩
      have HA : Hid (bs ++ [34] ++ quB' (s.data.toList.take (q + 1)) = acc ++ quB x) := by show _ = _; rw [HT.out, ← hacc]; simp only [List.append_assoc]
      rw [hacc] at HR HL
      clear hacc HT hx
      have hxb : x.toNat < 256 := x.toNat_lt
      have HQW : Hid (WrS wr WB QM LM base b' acc) := HR.out.st
      have hown : b'.ownBlock ≠ some wr.heap.size := fun e => by
        obtain ⟨_, _, _, h⟩ := owns_form HQW.out.own
        have := (h _ e).2
        omega
      have HOW : Hid _ := hown
      clear hown
      by_cases ha : x = 34 ∨ x = 92
      · have HE : Hid (quB x = [92, x]) := quB_a ha
        have fin : ∀ (w2 : World) (b2 : Value), WrS w2 WB QM LM base b2 (acc ++ [92, x]) → FrV WB WB b' b2 (wr.alloc (.cells #[.int .u8 92, .int .u8 (x.toNat : Int)] 5)) w2 → QuR wc w2 WB QM LM base b1 b2 (bs ++ [34] ++ quB' (s.data.toList.take (q + 1))) := fun w2 b2 h1 h2 => by
          rw [HA.out, HE.out]
          exact ⟨h1, HR.out.fr.trans ((FrV.first (below_alloc _ _)).trans h2)⟩
        have HFin : Hid _ := fin
        have hcall := write_any WB QM LM base b' acc [92, x] wr.heap.size 2 2 (wr.alloc (.cells #[.int .u8 92, .int .u8 (x.toNat : Int)] 5)) hB (by simp; omega) rfl (by omega) (by have := HL.out; omega) (heap_alloc_new wr _) (by omega) HOW (HQW.out.below (below_alloc _ _))
        clear fin
        rcases ha with rfl | rfl
        · go_wp2_with (go_at_call 128; refine hcall.mono ?_)
          rintro e w2 ⟨rfl, b2, hW2, hF2⟩
          have HN : Hid _ := HFin.out w2 b2 hW2 hF2
          clear hW2 hF2 hcall hcell
          go_wp2
          go_roundw
          case rel => exact ⟨q + 1, b2, by omega, by go_num, HN⟩
          case measure => simp [intOf]; omega
        · go_wp2_with (go_at_call 128; refine hcall.mono ?_)
          rintro e w2 ⟨rfl, b2, hW2, hF2⟩
          have HN : Hid _ := HFin.out w2 b2 hW2 hF2
          clear hW2 hF2 hcall hcell
          go_wp2
          go_roundw
          case rel => exact ⟨q + 1, b2, by omega, by go_num, HN⟩
          case measure => simp [intOf]; omega
      · have n1 : ¬ ((x.toNat : Int) = 34) := fun e => ha (Or.inl (by apply UInt8.toNat.inj; show x.toNat = 34; omega))
        have n2 : ¬ ((x.toNat : Int) = 92) := fun e => ha (Or.inr (by apply UInt8.toNat.inj; show x.toNat = 92; omega))
        have e1 : ((x.toNat : Int) == 34) = false := by simpa using n1
        have e2 : ((x.toNat : Int) == 92) = false := by simpa using n2
        by_cases hb : x.toNat < 32 ∨ 126 < x.toNat
        · have HE : Hid (quB x = [92, hexB (x.toNat / 16), hexB (x.toNat % 16)]) := quB_b ha hb
          have hm := mustEscape_any x.toNat
          rw [decide_eq_true hb] at hm
          have hi1 := hex_run (d := x.toNat / 16) (by omega)
          have hi2 := hex_run (d := x.toNat % 16) (by omega)
          obtain ⟨y, hy⟩ : ∃ y, hexB (x.toNat / 16) = y := ⟨_, rfl⟩
          obtain ⟨z, hz⟩ : ∃ z, hexB (x.toNat % 16) = z := ⟨_, rfl⟩
          rw [hy] at hi1 HE
          rw [hz] at hi2 HE
          obtain ⟨d1, hd1e⟩ : ∃ d : Int, ((x.toNat / 16 : Nat) : Int) = d := ⟨_, rfl⟩
          obtain ⟨d2, hd2e⟩ : ∃ d : Int, ((x.toNat % 16 : Nat) : Int) = d := ⟨_, rfl⟩
          have hd1 : IntKind.u8.wrap ((x.toNat : Int) / 16) = d1 := by rw [wrapU8 (by omega) (by omega), ← hd1e]; omega
          have hd2 : (x.toNat : Int).tmod 16 = d2 := (Int.ofNat_tmod x.toNat 16).symm.trans hd2e
          rw [hd1e] at hi1
          rw [hd2e] at hi2
          have HI : Hid ((∀ w, (Instr.index 9 (.string hexS) (.int .u8 d1)).run Tryz.prog w = .ok (.int .u8 (y.toNat : Int)) w) ∧ (∀ w, (Instr.index 9 (.string hexS) (.int .u8 d2)).run Tryz.prog w = .ok (.int .u8 (z.toNat : Int)) w) ∧ IntKind.u8.wrap ((x.toNat : Int) / 16) = d1 ∧ (x.toNat : Int).tmod 16 = d2) := ⟨hi1, hi2, hd1, hd2⟩
          have HFin : Hid (∀ (w2 : World) (b2 : Value), WrS w2 WB QM LM base b2 (acc ++ [92, y, z]) → FrV WB WB b' b2 (wr.drew.alloc (.cells #[.int .u8 92, .int .u8 (y.toNat : Int), .int .u8 (z.toNat : Int)] 5)) w2 → QuR wc w2 WB QM LM base b1 b2 (bs ++ [34] ++ quB' (s.data.toList.take (q + 1)))) := fun w2 b2 h1 h2 => by
            rw [HA.out, HE.out]
            exact ⟨h1, HR.out.fr.trans (((FrV.first (Below.refl _ _).drew).below (below_alloc _ _)).trans h2)⟩
          have hcall := write_any WB QM LM base b' acc [92, y, z] wr.heap.size 3 3 (wr.drew.alloc (.cells #[.int .u8 92, .int .u8 (y.toNat : Int), .int .u8 (z.toNat : Int)] 5)) hB (Nat.le_trans hszr ((Below.refl wr.heap.size wr).drew.alloc (Nat.le_refl _) _).size) rfl (by omega) (by have := HL.out; omega) (heap_alloc_new wr.drew _) (by omega) HOW (HQW.out.below ((Below.refl _ _).drew.alloc (Nat.le_refl _) _))
          clear hi1 hi2 hd1 hd2 hd1e hd2e hy hz hb ha n1 n2
          go_wp2_with (go_at_call 129; refine (hm _).mono ?_; rintro e w' ⟨rfl, rfl⟩)
          refine wp_region_held_drew (S := fun _ => True) (by kernel_rfl) trivial (fun hHeld => ?_)
          refine wpAnyH_take (i := 0) (v := .pointer (some ⟨WB, 0, none⟩)) rfl (by kernel_rfl) (by kernel_rfl) (by kernel_rfl) (fun _ _ _ h => h) (Or.inl ⟨by rfl, fun w hSw => ?_⟩) hHeld ?_
          · first | rfl | go_simp
          simp only [Act.put, List.setIfInBounds_toArray, List.set_cons_zero, List.set_cons_succ, List.getElem_toArray, List.getElem_cons_zero]
          refine wpAnyH_take (i := 1) (v := .pointer (some ⟨WB, 0, none⟩)) rfl (by kernel_rfl) (by kernel_rfl) (by kernel_rfl) (fun _ _ _ h => h) (Or.inl ⟨by rfl, fun w hSw => ?_⟩) hHeld ?_
          · first | rfl | go_simp
          simp only [Act.put, List.setIfInBounds_toArray, List.set_cons_zero, List.set_cons_succ, List.getElem_toArray, List.getElem_cons_zero, List.getElem_cons_succ]
          refine wpAnyH_take (i := 2) (v := .pointer (some ⟨WB, 2, none⟩)) rfl (by kernel_rfl) (by kernel_rfl) (by kernel_rfl) (fun _ _ _ h => h) (Or.inl ⟨by rfl, fun w hSw => ?_⟩) hHeld ?_
          · first | rfl | go_simp
          simp only [Act.put, List.setIfInBounds_toArray, List.set_cons_zero, List.set_cons_succ, List.getElem_toArray, List.getElem_cons_zero, List.getElem_cons_succ]
          refine wpAnyH_take (i := 3) (v := .int .u8 (x.toNat : Int)) rfl (by kernel_rfl) (by kernel_rfl) (by kernel_rfl) (fun _ _ _ h => h) (Or.inl ⟨by rfl, fun w hSw => ?_⟩) hHeld ?_
          · first | rfl | go_simp
          simp only [Act.put, List.setIfInBounds_toArray, List.set_cons_zero, List.set_cons_succ, List.getElem_toArray, List.getElem_cons_zero, List.getElem_cons_succ]
          refine wpAnyH_take (i := 4) (v := .int .u8 d1) rfl (by kernel_rfl) (by kernel_rfl) (by kernel_rfl) (fun _ _ _ h => h) (Or.inl ⟨by rfl, fun w hSw => ?_⟩) hHeld ?_
          · go_simp
            exact HI.out.2.2.1
          simp only [Act.put, List.setIfInBounds_toArray, List.set_cons_zero, List.set_cons_succ, List.getElem_toArray, List.getElem_cons_zero, List.getElem_cons_succ]
          refine wpAnyH_take (i := 5) (v := .int .u8 (y.toNat : Int)) rfl (by kernel_rfl) (by kernel_rfl) (by kernel_rfl) (fun _ _ _ h => h) (Or.inl ⟨by rfl, fun w hSw => ?_⟩) hHeld ?_
          · have s1 := HI.out.1 w
            first | rfl | go_simp
          simp only [Act.put, List.setIfInBounds_toArray, List.set_cons_zero, List.set_cons_succ, List.getElem_toArray, List.getElem_cons_zero, List.getElem_cons_succ]
          refine wpAnyH_take (i := 6) (v := .int .u8 (x.toNat : Int)) rfl (by kernel_rfl) (by kernel_rfl) (by kernel_rfl) (fun _ _ _ h => h) (Or.inl ⟨by rfl, fun w hSw => ?_⟩) hHeld ?_
          · first | rfl | go_simp
          simp only [Act.put, List.setIfInBounds_toArray, List.set_cons_zero, List.set_cons_succ, List.getElem_toArray, List.getElem_cons_zero, List.getElem_cons_succ]
          refine wpAnyH_take (i := 7) (v := .int .u8 d2) rfl (by kernel_rfl) (by kernel_rfl) (by kernel_rfl) (fun _ _ _ h => h) (Or.inl ⟨by rfl, fun w hSw => ?_⟩) hHeld ?_
          · go_simp
            exact HI.out.2.2.2
          simp only [Act.put, List.setIfInBounds_toArray, List.set_cons_zero, List.set_cons_succ, List.getElem_toArray, List.getElem_cons_zero, List.getElem_cons_succ]
          refine wpAnyH_take (i := 8) (v := .int .u8 (z.toNat : Int)) rfl (by kernel_rfl) (by kernel_rfl) (by kernel_rfl) (fun _ _ _ h => h) (Or.inl ⟨by rfl, fun w hSw => ?_⟩) hHeld ?_
          · have s1 := HI.out.2.1 w
            first | rfl | go_simp
          simp only [Act.put, List.setIfInBounds_toArray, List.set_cons_zero, List.set_cons_succ, List.getElem_toArray, List.getElem_cons_zero, List.getElem_cons_succ]
          refine wpAnyH_ready (rs := [9]) (by kernel_rfl) (by simp) ?_
          refine AllReadyH.cons rfl (fun K' hK' => ?_) AllReadyH.nil
          go_simp
          refine hK'.out _ _ trivial (fun hHeld => ?_)
          clear hK'
          refine wpAnyH_ready (rs := [10]) (by kernel_rfl) (by simp) ?_
          refine AllReadyH.cons rfl (fun K' hK' => ?_) AllReadyH.nil
          go_simp
          refine hcall.mono ?_
          clear hcall
          rintro e w2 ⟨rfl, b2, hW2, hF2⟩
          have HN : Hid _ := HFin.out w2 b2 hW2 hF2
          refine hK'.out _ _ trivial (fun hHeld => ?_)
          clear hK' hHeld hW2 hF2 hcell
          refine wpAnyH_done (by kernel_rfl) ?_ _
          go_wp2
          go_roundw
          case rel => exact ⟨q + 1, b2, by omega, by go_num, HN⟩
          case measure => simp [intOf]; omega
        · have HE : Hid (quB x = [x]) := quB_c ha hb
          have hm := mustEscape_any x.toNat
          rw [decide_eq_false hb] at hm
          have hcall := writeByte_any WB QM LM base b' acc x (x.toNat : Int) rfl wr hB (by omega) (by have := HL.out; omega) HQW
          clear hb ha n1 n2
          go_wp2_with (first
            | (go_at_call 129; refine (hm _).mono ?_; rintro e w' ⟨rfl, rfl⟩)
            | (go_at_call 130; refine hcall.mono ?_; rintro e w2 ⟨rfl, b2, hW2, hF2⟩))
          have HN : Hid (QuR wc w2 WB QM LM base b1 b2 (bs ++ [34] ++ quB' (s.data.toList.take (q + 1)))) := by
            show QuR _ _ _ _ _ _ _ _ _
            rw [HA.out, HE.out]
            exact ⟨hW2, HR.out.fr.trans hF2⟩
          clear hW2 hF2 hcall hcell
          go_wp2
          go_roundw
          case rel => exact ⟨q + 1, b2, by omega, by go_num, HN⟩
          case measure => simp [intOf]; omega
    · obtain rfl : q = s.size := by omega
      have HT : Hid (s.data.toList.take s.size = s.data.toList) := List.take_of_length_le (by rw [str_len]; exact Nat.le_refl _)
      rw [HT.out] at HR
      obtain ⟨acc, hacc⟩ : ∃ acc, bs ++ [34] ++ quB' s.data.toList = acc := ⟨_, rfl⟩
      have HA : Hid (acc ++ [34] = bs ++ quT s) := by show _ = _; rw [← hacc]; simp [quT]
      have HL : Hid (acc.length + 1 ≤ 140737488355328) := by
        have h1 := quB'_len s.data.toList
        have h2 := str_len s
        show _ ≤ _
        rw [← hacc]
        simp only [List.length_append, List.length_cons, List.length_nil]
        omega
      rw [hacc] at HR
      have hq1 : catS [⟨#[34]⟩] = [34] := rfl
      go_wp2_with (go_at_call 91; refine (wput_any WB QM LM base b' acc [⟨#[34]⟩] wr.heap.size 1 1 (wr.alloc (.cells #[.string ⟨#[34]⟩] 9)) rfl hB (by simp; omega) (by rw [hq1]; exact HL.out) (by omega) (pcs_new wr _) (by omega) (HR.out.st.below (below_alloc _ _))).mono ?_)
      rintro e w3 ⟨rfl, b3, hW3, hF3⟩
      rw [hq1, HA.out] at hW3
      have HW3 : Hid _ := hW3
      have HF3 : Hid _ := HF0.out.trans (HR.out.fr.trans ((FrV.first (below_alloc _ _)).trans hF3))
      clear hW3 hF3
      go_wp2
      go_end0
      exact ⟨rfl, b3, HW3.out, HF3.out⟩

end Go.Proofs.YtgflalfiopnmnaaGreatDoor

namespace Go.Proofs.YtgflalfiopnmnaaGreatDoor
open Go.Shelf

/-- Numbers as texts, laid at this program. -/
def Tryz.dec_ren : Go.Shelf.Ren := ⟨fun | 129 => 146 | 171 => 92 | 173 => 95 | 243 => 125 | 246 => 127 | 283 => 151 | 284 => 152 | 285 => 153 | 286 => 154 | 317 => 166 | 318 => 167 | 319 => 168 | 320 => 169 | 337 => 175 | 338 => 176 | n => n, fun | 0 => 0 | 2 => 2 | 3 => 3 | 4 => 4 | 5 => 5 | 9 => 9 | 20 => 20 | 37 => 22 | 46 => 210 | 51 => 253 | 53 => 49 | 171 => 260 | 173 => 262 | 212 => 278 | 213 => 279 | 232 => 291 | 233 => 292 | n => n, fun | 17 => 1 | 18 => 2 | 19 => 3 | n => n⟩
theorem Tryz.lays171 : LaysM.n171 Tryz.prog Tryz.dec_ren := {
  mixed := by kernel_rfl
  f129 := Tryz.func146.trans (congrArg some (by kernel_rfl))
  f171 := Tryz.func92.trans (congrArg some (by kernel_rfl))
  f243 := Tryz.func125.trans (congrArg some (by kernel_rfl))
  f246 := Tryz.func127.trans (congrArg some (by kernel_rfl))
  f283 := Tryz.func151.trans (congrArg some (by kernel_rfl))
  f284 := Tryz.func152.trans (congrArg some (by kernel_rfl))
  f285 := Tryz.func153.trans (congrArg some (by kernel_rfl))
  f286 := Tryz.func154.trans (congrArg some (by kernel_rfl))
  f317 := Tryz.func166.trans (congrArg some (by kernel_rfl))
  f318 := Tryz.func167.trans (congrArg some (by kernel_rfl))
  f319 := Tryz.func168.trans (congrArg some (by kernel_rfl))
  f320 := Tryz.func169.trans (congrArg some (by kernel_rfl))
  f337 := Tryz.func175.trans (congrArg some (by kernel_rfl))
  f338 := Tryz.func176.trans (congrArg some (by kernel_rfl))
  t0 := Tryz.underlying0
  a0 := Tryz.isAgg0
  z0 := Tryz.sizeOf0
  v0 := Tryz.zeroValue0
  t2 := Tryz.underlying2
  a2 := Tryz.isAgg2
  z2 := Tryz.sizeOf2
  v2 := Tryz.zeroValue2
  t3 := Tryz.underlying3
  a3 := Tryz.isAgg3
  z3 := Tryz.sizeOf3
  v3 := Tryz.zeroValue3
  t4 := Tryz.underlying4
  a4 := Tryz.isAgg4
  z4 := Tryz.sizeOf4
  v4 := Tryz.zeroValue4
  t5 := Tryz.underlying5
  a5 := Tryz.isAgg5
  z5 := Tryz.sizeOf5
  v5 := Tryz.zeroValue5
  t9 := Tryz.underlying9
  a9 := Tryz.isAgg9
  z9 := Tryz.sizeOf9
  v9 := Tryz.zeroValue9
  t20 := Tryz.underlying20
  a20 := Tryz.isAgg20
  z20 := Tryz.sizeOf20
  v20 := Tryz.zeroValue20
  t37 := Tryz.underlying22
  a37 := Tryz.isAgg22
  z37 := Tryz.sizeOf22
  v37 := Tryz.zeroValue22
  t46 := Tryz.underlying210
  a46 := Tryz.isAgg210
  z46 := Tryz.sizeOf210
  v46 := Tryz.zeroValue210
  t51 := Tryz.underlying253
  a51 := Tryz.isAgg253
  z51 := Tryz.sizeOf253
  v51 := Tryz.zeroValue253
  t53 := Tryz.underlying49
  a53 := Tryz.isAgg49
  z53 := Tryz.sizeOf49
  v53 := Tryz.zeroValue49
  t171 := Tryz.underlying260
  a171 := Tryz.isAgg260
  z171 := Tryz.sizeOf260
  v171 := Tryz.zeroValue260
  t173 := Tryz.underlying262
  a173 := Tryz.isAgg262
  z173 := Tryz.sizeOf262
  v173 := Tryz.zeroValue262
  t212 := Tryz.underlying278
  a212 := Tryz.isAgg278
  z212 := Tryz.sizeOf278
  v212 := Tryz.zeroValue278
  t213 := Tryz.underlying279
  a213 := Tryz.isAgg279
  z213 := Tryz.sizeOf279
  t232 := Tryz.underlying291
  a232 := Tryz.isAgg291
  z232 := Tryz.sizeOf291
  v232 := Tryz.zeroValue291
  t233 := Tryz.underlying292
  a233 := Tryz.isAgg292
  z233 := Tryz.sizeOf292
  v233 := Tryz.zeroValue292
  g17 := by kernel_rfl
  g18 := by kernel_rfl
  g19 := by kernel_rfl
  i0 := by kernel_rfl
  i2 := by kernel_rfl
  i3 := by kernel_rfl
  i4 := by kernel_rfl
  i5 := by kernel_rfl
  i9 := by kernel_rfl
  i20 := by kernel_rfl
  i37 := by kernel_rfl
  i46 := by kernel_rfl
  i51 := by kernel_rfl
  i53 := by kernel_rfl
  i171 := by kernel_rfl
  i173 := by kernel_rfl
  i212 := by kernel_rfl
  i232 := by kernel_rfl
  i233 := by kernel_rfl
  m17 := by kernel_rfl
  m18 := by kernel_rfl
  m19 := by kernel_rfl
}
theorem Tryz.lays173 : LaysM.n173 Tryz.prog Tryz.dec_ren := {
  mixed := by kernel_rfl
  f129 := Tryz.func146.trans (congrArg some (by kernel_rfl))
  f173 := Tryz.func95.trans (congrArg some (by kernel_rfl))
  f246 := Tryz.func127.trans (congrArg some (by kernel_rfl))
  f283 := Tryz.func151.trans (congrArg some (by kernel_rfl))
  f284 := Tryz.func152.trans (congrArg some (by kernel_rfl))
  f285 := Tryz.func153.trans (congrArg some (by kernel_rfl))
  f286 := Tryz.func154.trans (congrArg some (by kernel_rfl))
  f317 := Tryz.func166.trans (congrArg some (by kernel_rfl))
  f318 := Tryz.func167.trans (congrArg some (by kernel_rfl))
  f319 := Tryz.func168.trans (congrArg some (by kernel_rfl))
  f320 := Tryz.func169.trans (congrArg some (by kernel_rfl))
  f337 := Tryz.func175.trans (congrArg some (by kernel_rfl))
  f338 := Tryz.func176.trans (congrArg some (by kernel_rfl))
  t0 := Tryz.underlying0
  a0 := Tryz.isAgg0
  z0 := Tryz.sizeOf0
  v0 := Tryz.zeroValue0
  t2 := Tryz.underlying2
  a2 := Tryz.isAgg2
  z2 := Tryz.sizeOf2
  v2 := Tryz.zeroValue2
  t3 := Tryz.underlying3
  a3 := Tryz.isAgg3
  z3 := Tryz.sizeOf3
  v3 := Tryz.zeroValue3
  t4 := Tryz.underlying4
  a4 := Tryz.isAgg4
  z4 := Tryz.sizeOf4
  v4 := Tryz.zeroValue4
  t5 := Tryz.underlying5
  a5 := Tryz.isAgg5
  z5 := Tryz.sizeOf5
  v5 := Tryz.zeroValue5
  t9 := Tryz.underlying9
  a9 := Tryz.isAgg9
  z9 := Tryz.sizeOf9
  v9 := Tryz.zeroValue9
  t20 := Tryz.underlying20
  a20 := Tryz.isAgg20
  z20 := Tryz.sizeOf20
  v20 := Tryz.zeroValue20
  t37 := Tryz.underlying22
  a37 := Tryz.isAgg22
  z37 := Tryz.sizeOf22
  v37 := Tryz.zeroValue22
  t46 := Tryz.underlying210
  a46 := Tryz.isAgg210
  z46 := Tryz.sizeOf210
  v46 := Tryz.zeroValue210
  t51 := Tryz.underlying253
  a51 := Tryz.isAgg253
  z51 := Tryz.sizeOf253
  v51 := Tryz.zeroValue253
  t53 := Tryz.underlying49
  a53 := Tryz.isAgg49
  z53 := Tryz.sizeOf49
  v53 := Tryz.zeroValue49
  t171 := Tryz.underlying260
  a171 := Tryz.isAgg260
  z171 := Tryz.sizeOf260
  v171 := Tryz.zeroValue260
  t173 := Tryz.underlying262
  a173 := Tryz.isAgg262
  z173 := Tryz.sizeOf262
  v173 := Tryz.zeroValue262
  t212 := Tryz.underlying278
  a212 := Tryz.isAgg278
  z212 := Tryz.sizeOf278
  v212 := Tryz.zeroValue278
  t213 := Tryz.underlying279
  a213 := Tryz.isAgg279
  z213 := Tryz.sizeOf279
  t232 := Tryz.underlying291
  a232 := Tryz.isAgg291
  z232 := Tryz.sizeOf291
  v232 := Tryz.zeroValue291
  t233 := Tryz.underlying292
  a233 := Tryz.isAgg292
  z233 := Tryz.sizeOf292
  v233 := Tryz.zeroValue292
  g17 := by kernel_rfl
  g18 := by kernel_rfl
  g19 := by kernel_rfl
  i0 := by kernel_rfl
  i2 := by kernel_rfl
  i3 := by kernel_rfl
  i4 := by kernel_rfl
  i5 := by kernel_rfl
  i9 := by kernel_rfl
  i20 := by kernel_rfl
  i37 := by kernel_rfl
  i46 := by kernel_rfl
  i51 := by kernel_rfl
  i53 := by kernel_rfl
  i171 := by kernel_rfl
  i173 := by kernel_rfl
  i212 := by kernel_rfl
  i232 := by kernel_rfl
  i233 := by kernel_rfl
  m17 := by kernel_rfl
  m18 := by kernel_rfl
  m19 := by kernel_rfl
}

theorem itoa_any (n : Int) (h0 : -9223372036854775808 ≤ n) (h1 : n ≤ 9223372036854775807) (w : World) (htab : Lib.TabIs Tryz.prog w "internal/strconv.uint64pow10" .u64 Lib.pow10Tab) :
    Calls Tryz.prog 92 #[.int .i64 n] w fun e w' => e = .returned (.string ⟨(Lib.itoa n).toArray⟩) ∧ ∃ k os, w' = Go.Sort.grow (w.drewN k) os := Any.strconv_Itoa Tryz.lays171 n h0 h1 w htab
theorem formatInt_any (n : Int) (h0 : -9223372036854775808 ≤ n) (h1 : n ≤ 9223372036854775807) (w : World) (htab : Lib.TabIs Tryz.prog w "internal/strconv.uint64pow10" .u64 Lib.pow10Tab) :
    Calls Tryz.prog 95 #[.int .i64 n, .int .i64 10] w fun e w' => e = .returned (.string ⟨(Lib.itoa n).toArray⟩) ∧ ∃ k os, w' = Go.Sort.grow (w.drewN k) os := Any.strconv_FormatInt_10 Tryz.lays173 n h0 h1 w htab

end Go.Proofs.YtgflalfiopnmnaaGreatDoor

namespace Go.Proofs.YtgflalfiopnmnaaGreatDoor
open Go.RowKit Vl

/-- The table of powers is there, now and later. -/
def Tab (w : World) : Prop := ∀ w', Below w.heap.size w w' → Lib.TabIs Tryz.prog w' "internal/strconv.uint64pow10" .u64 Lib.pow10Tab
theorem Tab.below {w w' : World} (h : Tab w) (hb : Below w.heap.size w w') : Tab w' := fun w2 h2 => h w2 (hb.trans (h2.mono hb.size))
theorem Tab.base {w w' : World} {n : Nat} (h : ∀ w', Below n w w' → Lib.TabIs Tryz.prog w' "internal/strconv.uint64pow10" .u64 Lib.pow10Tab) (hn : n ≤ w'.heap.size) (hb : Below n w w') : Tab w' := fun w2 h2 => h w2 (hb.trans (h2.mono hn))

/-- Pieces laid anew and written. -/
theorem putL (WB QM LM base : Nat) (buf : Value) (bs : List UInt8) (l : List ByteArray) (w w3 : World) (PB m : Nat) (hPB : w3.heap.size = PB) (hm : l.length = m) (hm1 : m ≤ 1000) (hB : WB < base) (hbw : base ≤ w.heap.size) (hlen : bs.length + (catS l).length ≤ 140737488355328)
    (H : Hid (WrS w WB QM LM base buf bs)) (hb : Below w.heap.size w w3) :
    Calls Tryz.prog 91 #[.pointer (some ⟨WB, 0, none⟩), .slice (some ⟨PB, 0, none⟩) m m] (w3.alloc (.cells (l.map Value.string).toArray 9)) fun e w' => e = .returned (.tuple #[]) ∧ ∃ buf', WrS w' WB QM LM base buf' (bs ++ catS l) ∧ FrV WB WB buf buf' w w' := by
  subst hPB
  have hs := hb.size
  have hb2 : Below w.heap.size w (w3.alloc (.cells (l.map Value.string).toArray 9)) := hb.alloc hs _
  refine (wput_any WB QM LM base buf bs l w3.heap.size m m _ hm hB (by simp; omega) hlen hm1 (heap_alloc_new w3 _) (by omega) (H.out.below hb2)).mono ?_
  rintro e w' ⟨rfl, b', h1, h2⟩
  exact ⟨rfl, b', h1, (FrV.first hb2).trans h2⟩

theorem toN (l : List UInt8) : (⟨l.toArray⟩ : ByteArray).data.toList = l := rfl
theorem tab_grow {w : World} {k : Nat} {os : Array Obj} : Below w.heap.size w (Go.Sort.grow (w.drewN k) os) := Lib.below_grow _ w (Nat.le_refl _) k os

set_option maxHeartbeats 2000000 in
set_option maxRecDepth 100000 in
/-- '(*writer).plain'. -/
theorem wplain_any (WB QM LM base : Nat) (buf : Value) (bs : List UInt8) (v : V) (w : World) (hB : WB < base) (hbw : base ≤ w.heap.size) (hlen : bs.length ≤ 1000000000) (hk : v.k = 0 ∨ v.k = 1 ∨ v.k = 2 ∨ v.k = 3) (hv : shortV v) (HT : Hid (Tab w))
    (H : Hid (WrS w WB QM LM base buf bs)) :
    Calls Tryz.prog 55 #[.pointer (some ⟨WB, 0, none⟩), .agg #[.int .i64 v.k, .int .i64 v.n, .string v.s, .int .i64 v.a]] w fun e w' => e = .returned (.tuple #[]) ∧ ∃ buf', WrS w' WB QM LM base buf' (bs ++ plT v) ∧ FrV WB WB buf buf' w w' := by
  obtain ⟨k, m, s, a⟩ := v
  obtain ⟨hs, hm0, hm1⟩ := hv
  simp only at hs hm0 hm1 hk ⊢
  have hb1 : ∀ k, Below w.heap.size w (w.alloc (.cells #[.int .i64 k, .int .i64 m, .string s, .int .i64 a] 24)) := fun _ => below_alloc _ _
  rcases hk with rfl | rfl | rfl | rfl
  · have HE : Hid (plT ⟨0, m, s, a⟩ = catS [⟨#[110, 105, 108]⟩]) := rfl
    rw [HE.out]
    have hcall := putL WB QM LM base buf bs [⟨#[110, 105, 108]⟩] w _ (w.heap.size + 1) 1 (by simp) rfl (by omega) hB hbw (by rw [show (catS [⟨#[110, 105, 108]⟩]).length = 3 from rfl]; omega) H (hb1 0)
    clear hb1
    go_enter Tryz.func55, Tryz.ntmps55
    go_wp2_with (go_at_call 91; refine hcall.mono ?_; rintro e w' ⟨rfl, hh⟩)
    clear hcall
    have HH : Hid _ := hh
    clear hh
    go_end0
    exact ⟨rfl, HH.out⟩
  · by_cases h1 : m = 1
    · subst h1
      have HE : Hid (plT ⟨1, 1, s, a⟩ = catS [⟨#[116, 114, 117, 101]⟩]) := rfl
      rw [HE.out]
      have hcall := putL WB QM LM base buf bs [⟨#[116, 114, 117, 101]⟩] w _ (w.heap.size + 1) 1 (by simp) rfl (by omega) hB hbw (by rw [show (catS [⟨#[116, 114, 117, 101]⟩]).length = 4 from rfl]; omega) H (hb1 1)
      clear hb1
      go_enter Tryz.func55, Tryz.ntmps55
      go_wp2_with (first | (go_at_call 91; refine hcall.mono ?_; rintro e w' ⟨rfl, hh⟩) | go_in)
      clear hcall
      have HH : Hid _ := hh
      clear hh
      go_end0
      exact ⟨rfl, HH.out⟩
    · have HE : Hid (plT ⟨1, m, s, a⟩ = catS [⟨#[102, 97, 108, 115, 101]⟩]) := by
        show _ = _
        unfold plT
        rw [if_pos rfl, if_neg h1]
        rfl
      rw [HE.out]
      have hcall := putL WB QM LM base buf bs [⟨#[102, 97, 108, 115, 101]⟩] w _ (w.heap.size + 1) 1 (by simp) rfl (by omega) hB hbw (by rw [show (catS [⟨#[102, 97, 108, 115, 101]⟩]).length = 5 from rfl]; omega) H (hb1 1)
      have hne : (m == 1) = false := by simpa using h1
      clear hb1
      go_enter Tryz.func55, Tryz.ntmps55
      go_wp2_with (first | (go_at_call 91; refine hcall.mono ?_; rintro e w' ⟨rfl, hh⟩) | go_in)
      clear hcall
      have HH : Hid _ := hh
      clear hh
      go_end0
      exact ⟨rfl, HH.out⟩
  · have HE : Hid (plT ⟨2, m, s, a⟩ = catS [⟨(Lib.itoa m).toArray⟩]) := by
      show _ = _
      unfold plT
      simp [catS]
    rw [HE.out]
    have hfi := formatInt_any m hm0 hm1 _ (HT.out _ (hb1 2))
    have hsl : (Lib.itoa m).length ≤ 20 := itoa_len hm0 hm1
    have hsl2 : (catS [⟨(Lib.itoa m).toArray⟩]).length ≤ 20 := by simpa [catS] using hsl
    obtain ⟨str, hstr⟩ : ∃ str : ByteArray, ⟨(Lib.itoa m).toArray⟩ = str := ⟨_, rfl⟩
    rw [hstr] at hfi hsl2 ⊢
    have hcall : ∀ w3, Below w.heap.size w w3 → Calls Tryz.prog 91 #[.pointer (some ⟨WB, 0, none⟩), .slice (some ⟨w3.heap.size, 0, none⟩) 1 1] (w3.alloc (.cells #[.string str] 9)) fun e w' => e = .returned (.tuple #[]) ∧ ∃ buf', WrS w' WB QM LM base buf' (bs ++ catS [str]) ∧ FrV WB WB buf buf' w w' :=
      fun w3 hb => putL WB QM LM base buf bs [str] w w3 w3.heap.size 1 rfl rfl (by omega) hB hbw (by omega) H hb
    have HC : Hid _ := hcall
    clear hcall hsl hsl2 hstr
    have HB1 : Hid _ := hb1 2
    clear hb1
    go_enter Tryz.func55, Tryz.ntmps55
    go_wp2_with (go_at_call 95; refine hfi.mono ?_; rintro e w' ⟨rfl, hx⟩)
    have hb3 : Below w.heap.size w w' := by obtain ⟨q, os, hw'⟩ := hx; rw [hw']; exact HB1.out.trans (tab_grow.mono HB1.out.size)
    have hc := HC.out w' hb3
    clear HC hx hb3 hfi
    go_wp2_with (go_at_call 91; refine hc.mono ?_; rintro e w4 ⟨rfl, hh⟩)
    clear hc
    have HH : Hid _ := hh
    clear hh
    go_end0
    exact ⟨rfl, HH.out⟩
  · have HE : Hid (plT ⟨3, m, s, a⟩ = quT s) := rfl
    rw [HE.out]
    have hcall := quote_any WB QM LM base buf bs s _ hB (Nat.le_trans hbw (hb1 3).size) (by omega) hlen (H.out.below (hb1 3))
    have HB1 : Hid _ := hb1 3
    clear hb1
    go_enter Tryz.func55, Tryz.ntmps55
    go_wp2_with (go_at_call 96; refine hcall.mono ?_; rintro e w' ⟨rfl, b2, h1, h2⟩)
    clear hcall
    have HH : Hid _ := h1
    have HF : Hid _ := (FrV.first HB1.out).trans h2
    clear h1 h2
    go_end0
    exact ⟨rfl, b2, HH.out, HF.out⟩

end Go.Proofs.YtgflalfiopnmnaaGreatDoor
