import Derived.Test.YtgflalfiopnmnaaDoorDoor
import Derived.Test.YtgflalfiopnmnaaDoorXsLaw
import Derived.Deep.Matrix
namespace Go.Proofs.YtgflalfiopnmnaaDoor
open Go.RowKit
open Go.ChangeShapes Go.WideShapes Go.ChangeAt

theorem Tryd.cells25 : Tryd.prog.cellsOf 25 = 1 := by kernel_rfl
theorem Tryd.cells3 : Tryd.prog.cellsOf 3 = 1 := by kernel_rfl

/-- An address whose cells are there is plain. -/
theorem plain_addr {w : World} {a : Addr} {v : Value} (h : w.cell? (a.add 0) = some v) : a = ⟨a.block, a.off, none⟩ := by
  obtain ⟨b, off, spot⟩ := a
  have hspot : spot = none := by simpa [Addr.add] using World.cell?_spot h
  subst hspot
  rfl

/-- What 'open_int_rows' gives, as the walk wants it. -/
theorem mat_of {w : World} {a : Addr} {len cap : Nat} {A : Nat → Option Addr} {L C : Nat → Nat} {Z : Nat → List Int} (hl : len ≤ cap)
    (h : ∀ r, r < cap → w.cell? (a.add r) = some (.slice (A r) (L r) (C r)) ∧ L r ≤ C r ∧ C r ≤ maxLen ∧ (Z r).length = C r ∧ (∀ n ∈ Z r, (Lit.int .i64 n).wf = true) ∧ (A r = none → C r = 0) ∧
        ∀ a', A r = some a' → 0 ≤ a'.block ∧ ∀ c, c < C r → w.cell? (a'.add c) = some (.int .i64 ((Z r).getD c 0))) :
    (0 < len → some a = some ⟨a.block, a.off, none⟩) ∧ MatR w a.block a.off len A L C (fun r => ((A r).getD a).block) (fun r => ((A r).getD a).off) (fun r c => (Z r).getD c 0) := by
  have ha : 0 < len → a = ⟨a.block, a.off, none⟩ := fun h0 => plain_addr (h 0 (by omega)).1
  refine ⟨fun h0 => by rw [← ha h0], fun r hr => ?_, fun r hr c hc => ?_⟩
  · have e := (h r (by omega)).1
    rw [ha (by omega), addr_plus] at e
    exact e
  · obtain ⟨e1, e2, e3, e4, e5, e6, e7⟩ := h r (by omega)
    cases hA : A r with
    | none => have := e6 hA; omega
    | some a' =>
      obtain ⟨_, e8⟩ := e7 a' hA
      have hp := plain_addr (e8 0 (by omega))
      simp only [Option.getD_some]
      refine ⟨by rw [← hp], ?_⟩
      have e := e8 c (by omega)
      rw [hp, addr_plus] at e
      exact e

theorem exactSortContract (H : Type) (enc : TypeId × Value → H) (W : World) (base : Nat) (args : Array Value) (ds gs : List (DataW H)) (before : List MemPlace)
    (hval : ∀ (j : Nat) t v, Tryd.f5.params[j]? = some t → args[j]? = some v → Value.okWide Tryd.prog W .any base t v)
    (hW : DataW.Whole enc Tryd.prog Tryd.f5.params.toList Rows.fnExactSortSpec.vars false W args.toList ds gs before) (hL : laidMetH Tryd.prog Rows.fnExactSortRow.laid W) :
    Calls Tryd.prog 5 args W fun e W' => ∃ v, e = .returned v ∧ Rows.fnExactSortSpec.post enc Tryd.prog Tryd.f5 false true false false W args v W' := by
  have hW' := hW
  obtain ⟨p, q, hA0, hV0, rfl, hfz, hnd⟩ := hW
  have hA : DataW.TrodAll enc Tryd.prog W 0 (fun _ => true) true Tryd.f5.params.toList args.toList ds p := hA0
  have hV : DataW.TrodVars enc Tryd.prog W (fun _ => true) ["loop.example/cloth/impl.errScriptFails"] gs q := hV0
  rw [Tryd.params5] at hA hval
  obtain ⟨v0, vs0, d0, ds0, p0, q0, hargs, rfl, rfl, h0, r0⟩ := trodAll_cons hA
  obtain ⟨rfl, rfl, rfl⟩ := trodAll_nil r0
  obtain rfl : args = #[v0] := by cases args; simp_all
  obtain ⟨a0, len0, cap0, rfl⟩ := okWide_slice Tryd.underlying23 (hval 0 23 v0 rfl rfl)
  have k0 := h0
  have lt0 : ∀ x ∈ p0, x.block < W.heap.size := by obtain ⟨m, hm⟩ := k0; exact DataW.trod_lt m _ _ _ hm
  obtain ⟨ea, hE⟩ := sentinel rfl hL
  obtain ⟨gb, go, A, L, C, RB, RO, M, hga, hn, hL, hM⟩ : ∃ (gb go : Nat) (A : Nat → Option Addr) (L C RB RO : Nat → Nat) (M : Nat → Nat → Int), (0 < len0 → a0 = some ⟨gb, go, none⟩) ∧ len0 ≤ 9223372036854775807 ∧ (∀ r, r < len0 → L r ≤ 9223372036854775807) ∧ MatR W gb go len0 A L C RB RO M := by
    obtain ⟨fuel, hf⟩ := h0
    rcases Deep.open_int_rows Tryd.underlying23 Tryd.underlying25 Tryd.underlying3 Tryd.cells25 Tryd.cells3 hf with ⟨hcs, _⟩ | ⟨a, len, cap, A, L, C, Z, hcs, _, hl, hm, _, hr⟩
    · simp [Value.cells] at hcs
      obtain ⟨rfl, rfl, rfl⟩ := hcs
      exact ⟨0, 0, fun _ => none, fun _ => 0, fun _ => 0, fun _ => 0, fun _ => 0, fun _ _ => 0, fun h => by omega, by omega, fun r hr => by omega, ⟨fun r hr => by omega, fun r hr => by omega⟩⟩
    · simp [Value.cells] at hcs
      obtain ⟨rfl, rfl, rfl⟩ := hcs
      have R := mat_of hl hr
      unfold maxLen at hm hr
      exact ⟨_, _, A, L, C, _, _, _, R.1, by omega, fun r h => by have := hr r (by omega); omega, R.2⟩
  clear hA0 hV0
  refine (exactSortLaw a0 gb go len0 cap0 A L C RB RO M ea W hga hn hL hM hE).mono fun e W' ⟨he, bel⟩ => ?_
  subst he
  obtain ⟨d, rfl, hvs⟩ := vars_again hV bel (fun b => decide (b < W.heap.size))
  exact ⟨_, rfl, _, _, _, [], _, [.cell 0 0], hW', trodAll_mk1 (shut_bool Tryd.underlying4 _), (trodAll_cons_mk (Below.trod laidOutD (by kernel_rfl) (of_decide_eq_true (by kernel_rfl)) k0 bel lt0) trodAll_mk0), hvs, bel.frame _, fun h => by cases h⟩

set_option maxRecDepth 100000 in
theorem exactSortLifted (os : Os) (started : os.Started) (H : Type) (enc : TypeId × Value → H) (F : Stop.Interp) :
    ReturnsInHanded {} Tryd.checked os 5 .any ((OpenSpec.ofChange Rows.fnExactSortSpec).preRow enc Tryd.prog Tryd.f5 Rows.fnExactSortRow.domain false Rows.fnExactSortRow.laid) (((OpenSpec.ofChange Rows.fnExactSortSpec).at F).post enc Tryd.prog Tryd.f5 false true false false) := by
  refine returnsInHanded_of_row (C := Tryd.checked) (s := OpenSpec.ofChange Rows.fnExactSortSpec) ownD started (by kernel_rfl) Tryd.func5
    (witness_row_at (enc := enc) (C := Tryd.checked) false (laidOn (World.holding Tryd.prog default ⟨#[], #[], []⟩).heap.size (World.holding Tryd.prog os ⟨#[.cells #[.string textS] 91], #[], []⟩)) #[.slice none 0 0] rfl (by kernel_rfl) (by kernel_rfl) (by kernel_rfl)
      (OpenSpec.preRow_of_B rfl 8 (by kernel_rfl) (by kernel_rfl) (laid_met os _))) ?_
  intro W base args ds gs before hval hW _ _ _ hL _ _
  exact exactSortContract H enc W base args ds gs before hval hW hL

theorem exactSortSaid : Rows.FnExactSortSaid :=
  OpenClaim.holds_of_cond 5 Tryd.f5 rfl rfl rfl rfl rfl rfl rfl ⟨rfl, rfl, rfl, rfl, rfl⟩ rfl rfl rfl rfl rfl (by kernel_rfl) Tryd.func5 (by kernel_rfl)
    (of_decide_eq_true (by kernel_rfl)) (by unfold Func.isWrapper; first | (rw [if_pos (by decide +kernel)]; kernel_rfl) | (rw [if_neg (by decide +kernel)]; exact ⟨rfl, rfl⟩))
    (fun os started H enc _ F => by rw [OpenClaim.pre_eq_preRow]; exact exactSortLifted os started H enc F)

/-- No parameter wants a stand-in; the program's own looks: what the card asks. -/
theorem exactSortPlain (f : FuncId) (fn : Func) (hf : Tryd.pinned.checked.prog.funcNamed "loop.example/cloth/laws.FnExactSort" = some f) (hfn : Tryd.pinned.checked.prog.funcs[f]? = some fn) :
    true = Tryd.pinned.checked.prog.looks [] ∧ ∀ (j : Nat) t, fn.params[j]? = some t → Tryd.pinned.checked.prog.wantsStandIn t = false := by
  obtain rfl : f = 5 := Option.some.inj ((show Tryd.prog.funcNamed "loop.example/cloth/laws.FnExactSort" = some 5 by kernel_rfl).symm.trans hf) |>.symm
  obtain rfl : fn = Tryd.f5 := (Option.some.inj (Tryd.func5.symm.trans hfn)).symm
  refine ⟨by kernel_rfl, fun j t ht => ?_⟩
  rw [Tryd.params5] at ht
  obtain rfl : t = 23 := by simpa using Array.mem_of_getElem? ht
  exact (show Tryd.prog.wantsStandIn 23 = false by kernel_rfl)

theorem exactSort_card : Rows.FnExactSortCardSaid :=
  Claim7.holds_tied_plain_at .later [] _ _ _ _ exactSortSaid (fun _ h => by cases h) (by kernel_rfl) (fun _ h => by cases h) fnExactSort_row_tie rfl ⟨rfl, rfl⟩ (by kernel_rfl) rfl exactSortPlain (by kernel_rfl)
#print axioms exactSort_card
end Go.Proofs.YtgflalfiopnmnaaDoor
