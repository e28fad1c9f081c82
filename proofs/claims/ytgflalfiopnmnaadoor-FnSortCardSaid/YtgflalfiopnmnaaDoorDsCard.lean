import Derived.Test.YtgflalfiopnmnaaDoorDoor
import Derived.Test.YtgflalfiopnmnaaDoorDsLaw
namespace Go.Proofs.YtgflalfiopnmnaaDoor
open Go.RowKit
open Go.ChangeShapes Go.WideShapes Go.ChangeAt

theorem Tryd.cellsU8 : Tryd.prog.cellsOf 5 = 1 := by kernel_rfl

/-- What a law is told of its bytes. -/
theorem byteR_of {w : World} {x : Addr} {len cap : Nat} {zs : List Int} (h0 : 0 < w.heap.size) (hl : len ≤ cap) (hm : cap ≤ maxLen) (hz : zs.length = cap) (hcell : ∀ i, i < zs.length → w.cell? (x.add i) = some (.int .u8 (zs.getD i 0))) (hw : ∀ n ∈ zs, (Lit.int .u8 n).wf = true) :
    ∃ b off, ByteR w (some x) len b off ∧ b < w.heap.size ∧ len ≤ 9223372036854775807 := by
  unfold maxLen at hm
  by_cases h1 : 0 < len
  · have hc := hcell 0 (by omega)
    have hx : x = ⟨x.block, x.off, none⟩ := by
      obtain ⟨b, off, spot⟩ := x
      have hspot : spot = none := by simpa [Addr.add] using World.cell?_spot hc
      subst hspot
      rfl
    refine ⟨x.block, x.off, fun i hi => ⟨by rw [← hx], ?_⟩, ?_, by omega⟩
    · have hmem : zs.getD i 0 ∈ zs := by
        have : i < zs.length := by omega
        simp [List.getD, List.getElem?_eq_getElem this]
      have hb : 0 ≤ zs.getD i 0 ∧ zs.getD i 0 ≤ 255 := by simpa [Lit.wf, IntKind.min, IntKind.max, IntKind.signed, IntKind.bits] using hw _ hmem
      refine ⟨(zs.getD i 0).toNat, by omega, ?_⟩
      have e : ((zs.getD i 0).toNat : Int) = zs.getD i 0 := Int.toNat_of_nonneg hb.1
      have hci := hcell i (by omega)
      rw [hx, addr_plus] at hci
      rw [e]
      exact hci
    · have := World.block_lt_of_cell? _ _ hc
      rw [hx, addr_plus] at this
      exact this
  · exact ⟨0, 0, fun i hi => by omega, h0, by omega⟩

theorem sortContract (H : Type) (enc : TypeId × Value → H) (W : World) (base : Nat) (args : Array Value) (ds gs : List (DataW H)) (before : List MemPlace)
    (hval : ∀ (j : Nat) t v, Tryd.f3.params[j]? = some t → args[j]? = some v → Value.okWide Tryd.prog W .any base t v)
    (hW : DataW.Whole enc Tryd.prog Tryd.f3.params.toList Rows.fnSortSpec.vars false W args.toList ds gs before) (hL : laidMetH Tryd.prog Rows.fnSortRow.laid W) :
    Calls Tryd.prog 3 args W fun e W' => ∃ v, e = .returned v ∧ Rows.fnSortSpec.post enc Tryd.prog Tryd.f3 false true false false W args v W' := by
  have hW' := hW
  obtain ⟨p, q, hA0, hV0, rfl, hfz, hnd⟩ := hW
  have hA : DataW.TrodAll enc Tryd.prog W 0 (fun _ => true) true Tryd.f3.params.toList args.toList ds p := hA0
  have hV : DataW.TrodVars enc Tryd.prog W (fun _ => true) ["loop.example/cloth/impl.errScriptFails"] gs q := hV0
  rw [Tryd.params3] at hA hval
  obtain ⟨v0, vs0, d0, ds0, p0, q0, hargs, rfl, rfl, h0, r0⟩ := trodAll_cons hA
  obtain ⟨rfl, rfl, rfl⟩ := trodAll_nil r0
  obtain rfl : args = #[v0] := by cases args; simp_all
  obtain ⟨a0, len0, cap0, rfl⟩ := okWide_slice Tryd.underlying22 (hval 0 22 v0 rfl rfl)
  have k0 := h0
  have lt0 : ∀ x ∈ p0, x.block < W.heap.size := by obtain ⟨m, hm⟩ := k0; exact DataW.trod_lt m _ _ _ hm
  obtain ⟨ea, hE⟩ := sentinel rfl hL
  have hp0 : 0 < W.heap.size := by simpa using World.block_lt_of_cell? _ _ hE
  obtain ⟨b, off, hB⟩ : ∃ b off, ByteR W a0 len0 b off ∧ b < W.heap.size ∧ len0 ≤ 9223372036854775807 := by
    obtain ⟨fuel, hf⟩ := h0
    rcases open_ints Tryd.underlying22 Tryd.underlying5 Tryd.cellsU8 hf with ⟨hcs, _⟩ | ⟨x, l, c, zs, hcs, _, hl, hm, hz, _, hcell, hwz⟩
    · simp [Value.cells] at hcs
      obtain ⟨rfl, rfl, rfl⟩ := hcs
      exact ⟨0, 0, fun i hi => by omega, hp0, by omega⟩
    · simp [Value.cells] at hcs
      obtain ⟨rfl, rfl, rfl⟩ := hcs
      exact byteR_of hp0 hl hm (by simpa using hz) hcell hwz
  clear hA0 hV0
  refine (sortLaw a0 len0 cap0 b off ea W hB.1 hB.2.1 hB.2.2 hE).mono fun e W' ⟨he, bel⟩ => ?_
  subst he
  obtain ⟨d, rfl, hvs⟩ := vars_again hV bel (fun b => decide (b < W.heap.size))
  exact ⟨_, rfl, _, _, _, [], _, [.cell 0 0], hW', trodAll_mk1 (shut_bool Tryd.underlying4 _), (trodAll_cons_mk (Below.trod laidOutD (by kernel_rfl) (of_decide_eq_true (by kernel_rfl)) k0 bel lt0) trodAll_mk0), hvs, bel.frame _, fun h => by cases h⟩

set_option maxRecDepth 100000 in
theorem sortLifted (os : Os) (started : os.Started) (H : Type) (enc : TypeId × Value → H) (F : Stop.Interp) :
    ReturnsInHanded {} Tryd.checked os 3 .any ((OpenSpec.ofChange Rows.fnSortSpec).preRow enc Tryd.prog Tryd.f3 Rows.fnSortRow.domain false Rows.fnSortRow.laid) (((OpenSpec.ofChange Rows.fnSortSpec).at F).post enc Tryd.prog Tryd.f3 false true false false) := by
  refine returnsInHanded_of_row (C := Tryd.checked) (s := OpenSpec.ofChange Rows.fnSortSpec) ownD started (by kernel_rfl) Tryd.func3
    (witness_row_at (enc := enc) (C := Tryd.checked) false (laidOn (World.holding Tryd.prog default ⟨#[], #[], []⟩).heap.size (World.holding Tryd.prog os ⟨#[.cells #[.string textS] 91], #[], []⟩)) #[.slice none 0 0] rfl (by kernel_rfl) (by kernel_rfl) (by kernel_rfl)
      (OpenSpec.preRow_of_B rfl 8 (by kernel_rfl) (by kernel_rfl) (laid_met os _))) ?_
  intro W base args ds gs before hval hW _ _ _ hL _ _
  exact sortContract H enc W base args ds gs before hval hW hL

theorem sortSaid : Rows.FnSortSaid :=
  OpenClaim.holds_of_cond 3 Tryd.f3 rfl rfl rfl rfl rfl rfl rfl ⟨rfl, rfl, rfl, rfl, rfl⟩ rfl rfl rfl rfl rfl (by kernel_rfl) Tryd.func3 (by kernel_rfl)
    (of_decide_eq_true (by kernel_rfl)) (by unfold Func.isWrapper; first | (rw [if_pos (by decide +kernel)]; kernel_rfl) | (rw [if_neg (by decide +kernel)]; exact ⟨rfl, rfl⟩))
    (fun os started H enc _ F => by rw [OpenClaim.pre_eq_preRow]; exact sortLifted os started H enc F)

/-- No parameter wants a stand-in; the program's own looks: what the card asks. -/
theorem sortPlain (f : FuncId) (fn : Func) (hf : Tryd.pinned.checked.prog.funcNamed "loop.example/cloth/laws.FnSort" = some f) (hfn : Tryd.pinned.checked.prog.funcs[f]? = some fn) :
    true = Tryd.pinned.checked.prog.looks [] ∧ ∀ (j : Nat) t, fn.params[j]? = some t → Tryd.pinned.checked.prog.wantsStandIn t = false := by
  obtain rfl : f = 3 := Option.some.inj ((show Tryd.prog.funcNamed "loop.example/cloth/laws.FnSort" = some 3 by kernel_rfl).symm.trans hf) |>.symm
  obtain rfl : fn = Tryd.f3 := (Option.some.inj (Tryd.func3.symm.trans hfn)).symm
  refine ⟨by kernel_rfl, fun j t ht => ?_⟩
  rw [Tryd.params3] at ht
  obtain rfl : t = 22 := by simpa using Array.mem_of_getElem? ht
  exact (show Tryd.prog.wantsStandIn 22 = false by kernel_rfl)

theorem sort_card : Rows.FnSortCardSaid :=
  Claim7.holds_tied_plain_at .later [] _ _ _ _ sortSaid (fun _ h => by cases h) (by kernel_rfl) (fun _ h => by cases h) fnSort_row_tie rfl ⟨rfl, rfl⟩ (by kernel_rfl) rfl sortPlain (by kernel_rfl)
#print axioms sort_card
end Go.Proofs.YtgflalfiopnmnaaDoor
