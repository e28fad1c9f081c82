import Derived.Test.YtgflalfiopnmnabDoorCnFr
import Derived.Test.YtgflalfiopnmnabDoorFzPure
import Derived.Lib.Builder
import Derived.Lib.AppendStr
import Derived.Lib.UnsafeStr
import Derived.Laws.Externs
import Derived.Deep.AppendLies
namespace Go.Proofs.YtgflalfiopnmnabDoor
open Go.RowKit Vl

/-! A builder that lies in a field: the program's writer. -/

abbrev pW (WB : Nat) : Value := .pointer (some ⟨WB, 2, none⟩)

/-- The writer: its leads, its labels, and what has been written. -/
structure WrS (w : World) (WB QM LM base : Nat) (buf : Value) (bs : List UInt8) : Prop where
  blk : ∃ p, (p = .pointer none ∨ p = pW WB) ∧ w.heap[WB]? = some (.cells #[.map (some QM), .map (some LM), p, buf] 63 (0, 0))
  own : w.ownsRow base 5 1 buf bs.length (Lib.byteCells bs)

theorem four_at {w : World} {B : Nat} {a b c d : Value} {t : TypeId} (H : w.heap[B]? = some (.cells #[a, b, c, d] t (0, 0))) :
    w.cell? ⟨B, 0, none⟩ = some a ∧ w.cell? ⟨B, 1, none⟩ = some b ∧ w.cell? ⟨B, 2, none⟩ = some c ∧ w.cell? ⟨B, 3, none⟩ = some d ∧ w.shape? B = some (t, 4) ∧ ∀ i, w.frozen? ⟨B, i, none⟩ = false := by
  refine ⟨?_, ?_, ?_, ?_, ?_, fun i => ?_⟩ <;> simp [World.cell?, World.frozen?, World.shape?, H]

theorem WrS.lt {w : World} {WB QM LM base : Nat} {buf : Value} {bs : List UInt8} (h : WrS w WB QM LM base buf bs) : WB < w.heap.size := by
  obtain ⟨p, _, hb⟩ := h.blk
  exact blk_lt hb
theorem WrS.below {w w' : World} {WB QM LM base : Nat} {buf : Value} {bs : List UInt8} (h : WrS w WB QM LM base buf bs) (hb : Below w.heap.size w w') : WrS w' WB QM LM base buf bs := by
  obtain ⟨p, hp, hB⟩ := h.blk
  exact ⟨⟨p, hp, blkB hB hb⟩, (Only.below (P := fun _ => False) hb).owns h.own (fun _ _ _ h => h)⟩

theorem size_bld : ∃ j, Tryd.prog.info? 61 = some j ∧ j.size = 2 := by
  have h : (Tryd.prog.info? 61).map (fun i => i.size) = some 2 := by kernel_rfl
  cases hi : Tryd.prog.info? 61 with
  | none => rw [hi] at h; cases h
  | some j => rw [hi] at h; exact ⟨j, rfl, by simpa using h⟩
theorem Tryd.infoU8 : (Tryd.prog.info? 5).map (fun i => (i.zero, i.size, i.bytes)) = some (some (.int .u8 0), 1, 1) := by kernel_rfl

set_option maxHeartbeats 1000000 in
set_option maxRecDepth 100000 in
theorem copyCheck_used (b : Nat) (w : World) (h0 : w.cell? ⟨b, 2, none⟩ = some (pW b)) :
    Calls Tryd.prog 64 #[pW b] w fun e w' => e = .returned (.tuple #[]) ∧ w' = w := by
  obtain ⟨j, hj, _⟩ := size_bld
  go_enter Tryd.func64, Tryd.ntmps64
  go_wp2
  rw [Lib.run_neq_ptr_same w _ Tryd.underlying58 hj]
  go_wp2
  go_end0
  exact ⟨rfl, rfl⟩

set_option maxHeartbeats 1000000 in
set_option maxRecDepth 100000 in
theorem copyCheck_fresh (b : Nat) (w : World) (h0 : w.cell? ⟨b, 2, none⟩ = some (.pointer none)) (hsh : w.shape? b = some (63, 4)) (hfz : w.frozen? ⟨b, 2, none⟩ = false) :
    Calls Tryd.prog 64 #[pW b] w fun e w' => e = .returned (.tuple #[]) ∧ w' = w.setCell ⟨b, 2, none⟩ (pW b) := by
  obtain ⟨j, hj, hjs⟩ := size_bld
  go_enter Tryd.func64, Tryd.ntmps64
  go_wp2
  rw [Lib.run_to_unsafe w ⟨b, 2, none⟩ Tryd.underlying58 Tryd.underlying136 hj (by rw [hjs]; decide) hsh (show 2 < 4 by decide)]
  simp only [Result.andThen]
  rw [Oper.upon_value]
  go_wp2
  rw [run_callFunc_extern Tryd.func69 (by kernel_rfl) (by kernel_rfl) (by kernel_rfl) (e := Extern.AbiNoEscape.same) (by kernel_rfl)]
  rw [Lib.run_noEscape]
  simp only [Result.andThen]
  rw [Oper.upon_value]
  go_wp2
  rw [Lib.run_from_unsafe w ⟨b, 2, none⟩ Tryd.underlying136 Tryd.underlying58 hj hsh (by kernel_rfl)]
  simp only [Result.andThen]
  rw [Oper.upon_value]
  go_wp2
  go_end0
  exact ⟨rfl, rfl⟩

/-- Behind it the builder has its own address. -/
structure WrU (w : World) (WB QM LM base : Nat) (buf : Value) (bs : List UInt8) : Prop where
  blk : w.heap[WB]? = some (.cells #[.map (some QM), .map (some LM), pW WB, buf] 63 (0, 0))
  own : w.ownsRow base 5 1 buf bs.length (Lib.byteCells bs)

theorem copyCheck_any (WB QM LM base : Nat) (buf : Value) (bs : List UInt8) (w : World) (hB : WB < base) (H : WrS w WB QM LM base buf bs) :
    Calls Tryd.prog 64 #[pW WB] w fun e w' => e = .returned (.tuple #[]) ∧ WrU w' WB QM LM base buf bs ∧ FrV WB WB buf buf w w' ∧ w'.heap.size = w.heap.size := by
  obtain ⟨p, hp, hb⟩ := H.blk
  obtain ⟨c0, c1, c2, c3, hsh, hfz⟩ := four_at hb
  rcases hp with rfl | rfl
  · refine (copyCheck_fresh WB w c2 hsh (hfz 2)).mono ?_
    rintro e w' ⟨rfl, rfl⟩
    refine ⟨rfl, ⟨?_, ?_⟩, ⟨(Only.refl _ _).set (Or.inl rfl) _, fun _ _ h => h⟩, by simp [World.setCell]⟩
    · simp [World.setCell, Array.getElem?_modify, hb]
    · refine ownsRow_setCell_other H.own (fun e => ?_) _
      obtain ⟨_, _, _, hk⟩ := owns_form H.own
      have := (hk _ e).1
      simp only at *
      omega
  · refine (copyCheck_used WB w c2).mono ?_
    rintro e w' ⟨rfl, rfl⟩
    exact ⟨rfl, ⟨hb, H.own⟩, FrV.refl _ _ _ _, rfl⟩

theorem ownsRow_mono {w : World} {b b' e s n : Nat} {v : Value} {xs : List Value} (h : w.ownsRow b' e s v n xs) (hb : b ≤ b') : w.ownsRow b e s v n xs := by
  refine ⟨h.1, ?_⟩
  rcases h.2 with h2 | ⟨g, cap, cur, hv, hg, r⟩
  · exact Or.inl h2
  · exact Or.inr ⟨g, cap, cur, hv, Nat.le_trans hb hg, r⟩

/-- A string appended: the row is where it was, or new. -/
theorem append_str_lies (w : World) (base : Nat) (t u ty e : TypeId) (i : TypeInfo) (ht : Tryd.prog.underlying t = some (.slice e)) (hu : Tryd.prog.underlying u = some .string) (hi : Tryd.prog.info? e = some i) (hz : i.zero = some (.int .u8 0))
    (hsize : i.size = 1) (hby : i.bytes = 1) (v : Value) (n : Nat) (xs : List Value) (hown : w.ownsRow base e 1 v n xs) (s : ByteArray) (hbytes : n + s.size ≤ 140737488355328) (hbase : base ≤ w.heap.size) :
    ∃ v' w', (Builtin.append_ #[t, u] ty #[v, .string s]).run Tryd.prog w = .ok v' w' ∧ w'.ownsRow base e 1 v' (n + s.size) (xs ++ Lib.strCells s) ∧ w.grownBy w' v.ownBlock ∧ (∀ k, v'.ownBlock = some k → v.ownBlock = some k ∨ w.heap.size ≤ k) := by
  have h63 : n + s.size ≤ maxLen := by unfold maxLen; omega
  rcases hown.2 with ⟨rfl, rfl⟩ | ⟨g, cap, cur, rfl, hbg, hg, hnc, hcm, hcs, htake⟩
  · have hown' : w.ownsRow w.heap.size e 1 (.slice none 0 0) 0 xs := ⟨hown.1, Or.inl ⟨rfl, rfl⟩⟩
    obtain ⟨v', w', hr, h1, h2, _⟩ := Lib.run_append_own_string (P := Tryd.prog) w w.heap.size t u ty e i ht hu hi hz hsize hby _ 0 xs hown' s h63 hbytes (Nat.le_refl _)
    refine ⟨v', w', hr, ownsRow_mono h1 hbase, h2, fun k hk => Or.inr ?_⟩
    obtain ⟨_, _, _, h⟩ := owns_form h1
    exact (h k hk).1
  · obtain ⟨v', w', hr, h1, h2, _⟩ := Lib.run_append_own_string (P := Tryd.prog) w base t u ty e i ht hu hi hz hsize hby _ n xs hown s h63 hbytes hbase
    refine ⟨v', w', hr, h1, h2, fun k hk => ?_⟩
    have hxl : xs.length = n := by simpa using hown.1
    by_cases hroom : n + s.size ≤ cap
    · have hr' := Lib.run_append_room_string (P := Tryd.prog) w t u ty e i ht hu hi hsize g n cap cur hg s hroom (by omega)
      rw [hr] at hr'
      simp only [Result.ok.injEq] at hr'
      rw [hr'.1] at hk
      exact Or.inl hk
    · have holds : ∀ j u, xs[j]? = some u → w.cell? ((⟨g, 0, none⟩ : Addr).add j) = some u := hown.cells (g := g) rfl
      have hr' := Lib.run_append_grow_string (P := Tryd.prog) w t u ty e i (.int .u8 0) ht hu hi hz ⟨g, 0, none⟩ n cap xs (by rw [hsize]; simpa using hxl) holds s (by omega) (by omega) (by rw [hby]; exact growslice_fits (by omega) (by omega))
      rw [hr] at hr'
      simp only [Result.ok.injEq] at hr'
      rw [hr'.1] at hk
      simp only [Value.ownBlock, Option.some.injEq] at hk
      exact Or.inr (by omega)

theorem wpList_append_str {w : World} {ops : Array Oper} {rest : List Oper} {o : Oper} {a : Act} {Q : Exit → Act → World → Prop} (hgd : o.guard = none) (sl x : Operand) (t u : TypeId)
    (ho : o.op = .call { callee := .builtin .append, args := #[sl, x], argTypes := #[t, u] })
    (base : Nat) (e : TypeId) (i : TypeInfo) (ht : Tryd.prog.underlying t = some (.slice e)) (hu : Tryd.prog.underlying u = some .string) (hi : Tryd.prog.info? e = some i) (hz : i.zero = some (.int .u8 0))
    (hsize : i.size = 1) (hby : i.bytes = 1)
    (v : Value) (n : Nat) (xs : List Value) (hs : a.eval sl = v) (hown : w.ownsRow base e 1 v n xs) (s : ByteArray) (hx : a.eval x = .string s)
    (hbytes : n + s.size ≤ 140737488355328) (hbase : base ≤ w.heap.size)
    (h : ∀ v' w', w'.ownsRow base e 1 v' (n + s.size) (xs ++ Lib.strCells s) → w.grownBy w' v.ownBlock → (∀ k, v'.ownBlock = some k → v.ownBlock = some k ∨ w.heap.size ≤ k) → wpList Tryd.prog ops Q rest (a.put o.dst v') w') : wpList Tryd.prog ops Q (o :: rest) a w := by
  refine wpList_plain hgd fun K hK => ?_
  obtain ⟨v', w', hr, h2, h3, h4⟩ := append_str_lies w base t u o.type e i ht hu hi hz hsize hby v n xs hown s hbytes hbase
  unfold Oper.wp execOp
  simp only [ho, resolve, invoke, builtin, Sem.run_bind, Sem.run_pure, Result.andThen_ok, List.map_toArray, List.map_cons, List.map_nil, hs, hx, hr]
  exact hK _ _ (h v' w' h2 h3 h4)

/-- What an append leaves. -/
theorem WrU.put {w w3 : World} {WB QM LM base : Nat} {buf buf' : Value} {bs bs' : List UInt8} (h : WrU w WB QM LM base buf bs) (hB : WB < base) (hgrow : w.grownBy w3 buf.ownBlock)
    (hown : w3.ownsRow base 5 1 buf' bs'.length (Lib.byteCells bs')) (hat : ∀ k, buf'.ownBlock = some k → buf.ownBlock = some k ∨ w.heap.size ≤ k) :
    (w3.cell? ⟨WB, 3, none⟩ = some buf ∧ ∀ j, w3.frozen? ⟨WB, j, none⟩ = false) ∧ WrU (w3.setCell ⟨WB, 3, none⟩ buf') WB QM LM base buf' bs' ∧ FrV WB WB buf buf' w (w3.setCell ⟨WB, 3, none⟩ buf') := by
  obtain ⟨_, _, _, hk⟩ := owns_form h.own
  have n1 : buf.ownBlock ≠ some WB := fun e => by have := (hk _ e).1; omega
  have hblk := (hgrow.block WB (blk_lt h.blk) (fun e => n1 e.symm)).trans h.blk
  have hc := four_at hblk
  have ho : Only (fun k => k = WB ∨ k = WB ∨ buf.ownBlock = some k) w w3 := ⟨hgrow.os, hgrow.tape, hgrow.output, hgrow.size, fun k hk hp => hgrow.block k hk (fun e => hp (Or.inr (Or.inr e.symm)))⟩
  refine ⟨⟨hc.2.2.2.1, hc.2.2.2.2.2⟩, ⟨?_, ?_⟩, ⟨ho.set (Or.inl rfl) _, fun k hk' e => ?_⟩⟩
  · simp [World.setCell, Array.getElem?_modify, hblk]
  · refine ownsRow_setCell_other (a := ⟨WB, 3, none⟩) hown (fun e => ?_) _
    obtain ⟨_, _, _, hk2⟩ := owns_form hown
    have := (hk2 _ e).1
    simp only at *
    omega
  · rcases hat k e with h' | h'
    · exact h'
    · omega
theorem WrU.toS {w : World} {WB QM LM base : Nat} {buf : Value} {bs : List UInt8} (h : WrU w WB QM LM base buf bs) : WrS w WB QM LM base buf bs := ⟨⟨_, Or.inr rfl, h.blk⟩, h.own⟩

theorem str_cells (s : ByteArray) : Lib.strCells s = Lib.byteCells s.data.toList := rfl
theorem str_len (s : ByteArray) : s.data.toList.length = s.size := by rw [Array.length_toList]; rfl

set_option maxHeartbeats 2000000 in
set_option maxRecDepth 100000 in
/-- '(*strings.Builder).WriteString' in the writer. -/
theorem writeString_any (WB QM LM base : Nat) (buf : Value) (bs : List UInt8) (s : ByteArray) (w : World) (hB : WB < base) (hbw : base ≤ w.heap.size) (hlen : bs.length + s.size ≤ 140737488355328) (H : Hid (WrS w WB QM LM base buf bs)) :
    Calls Tryd.prog 56 #[pW WB, .string s] w fun e w' => e = .returned (.tuple #[.int .i64 s.size, .nilIface]) ∧ ∃ buf', WrS w' WB QM LM base buf' (bs ++ s.data.toList) ∧ FrV WB WB buf buf' w w' := by
  obtain ⟨i0, hi, hz0, hz1, hz2⟩ := info_parts Tryd.infoU8
  go_enter Tryd.func56, Tryd.ntmps56
  go_wp2_with (go_at_call 64; refine (copyCheck_any WB QM LM base buf bs w hB H.out).mono ?_)
  rintro e w1 ⟨rfl, hU, hF, hs1⟩
  have HU : Hid (WrU w1 WB QM LM base buf bs) := hU
  have HF : Hid (FrV WB WB buf buf w w1) := hF
  have HS : Hid (w1.heap.size = w.heap.size) := hs1
  obtain ⟨c0, c1, c2, c3, _, _⟩ := four_at hU.blk
  clear hU hF hs1
  go_wp2_with (at_builtin; refine wpList_append_str (by rfl) _ _ 59 9 (by rfl) base 5 i0 Tryd.underlying59 Tryd.underlying9 hi hz0 hz1 hz2 buf bs.length (Lib.byteCells bs) (by rfl) HU.out.own s (by rfl) hlen (by rw [HS.out]; exact hbw) ?_)
  intro buf' w2 hown hgrow hat
  obtain ⟨ao, cap, rfl, _⟩ := owns_form hown
  have hown' : w2.ownsRow base 5 1 (.slice ao (bs.length + s.size) cap) (bs ++ s.data.toList).length (Lib.byteCells (bs ++ s.data.toList)) := by
    rw [List.length_append, str_len, show Lib.byteCells (bs ++ s.data.toList) = Lib.byteCells bs ++ Lib.strCells s by simp [Lib.byteCells, Lib.strCells]]
    exact hown
  obtain ⟨⟨d3, dz⟩, hU2, hF2⟩ := HU.out.put hB hgrow hown' hat
  have HU2 : Hid _ := hU2
  have HF2 : Hid _ := HF.out.trans hF2
  have f3 := dz 3
  clear c0 c1 c2 c3 hU2 hF2 hown hown' hgrow hat dz
  go_wp2
  go_ret2
  exact ⟨rfl, _, HU2.out.toS, HF2.out⟩

end Go.Proofs.YtgflalfiopnmnabDoor
