import Derived.Test.YtgflalfiopnmnaaDoorSoEach
import Derived.Defers
import Derived.Recover
import Derived.Laws.EntriesVeiled
namespace Go.Proofs.YtgflalfiopnmnaaDoor
open Go.RowKit Rk So

/-- The deferred function of a frame that returns: nothing turns. -/
theorem catch_idle (p : Addr) (w : World) :
    CallsD Tryd.prog 42 #[.pointer (some p)] .returning w fun e u' w' => e = .returned (.tuple #[]) ∧ u' = .returning ∧ w' = w := by
  refine callsD_of_wpS Tryd.func42 rfl fun c₀ cs hu => ?_
  apply wpS_seq
  apply wpS_region
  simp [wpOpsS, go_sem, recoverD, hu, Tryd.ntmps42, Exit.thenS]
  apply wpS_seq
  apply wpS_region
  simp [wpOpsS, go_sem, Exit.thenS]
  refine wpS_cond (t := false) (by simp [Act.eval, Array.replicate]) ?_
  simp only [Bool.false_eq_true, if_false]
  refine wpS_of_wp (wp_skip ?_)
  cases c₀
  simp_all [bodyPostS, results, Tryd.results42]

/-- The deferred function of a frame that panics with the sort's own type: the error is laid. -/
theorem catch_panicking (p : Addr) (E : Value) (older : List PanicEntry) (u : TypeId) (pv : Value) (hE : E = .iface u pv) (x : Value) (w : World) (hc : w.cell? p = some x) (hz : w.frozen? p = false) (hp : p.block < w.heap.size) :
    CallsD Tryd.prog 42 #[.pointer (some p)] (.panicking ({ v := .iface 66 (.agg #[E]), recovered := false } :: older)) w fun e u' w' =>
      e = .returned (.tuple #[]) ∧ u' = .panicking ({ v := .iface 66 (.agg #[E]), recovered := true } :: older) ∧ w' = (w.alloc (.cells #[E] 66)).setCell p E := by
  subst hE
  have hta : ∀ (x : Value) (w : World), (Instr.typeAssert (.iface 66 (.agg #[x])) 20 66 true).run Tryd.prog w = .ok (.tuple #[.agg #[x], .bool true]) w := fun _ _ => by kernel_rfl
  have hc' : ∀ o, (w.alloc o).cell? p = some x := fun o => by rw [World.cell?_alloc_old _ _ _ (by omega)]; exact hc
  have hz' : ∀ o, (w.alloc o).frozen? p = false := fun o => by rw [World.frozen?_alloc_old _ _ _ (by omega)]; exact hz
  clear hc hz hp
  refine callsD_of_wpS Tryd.func42 rfl fun c₀ cs hu => ?_
  apply wpS_seq
  apply wpS_region
  simp [wpOpsS, go_sem, recoverD, hu, Tryd.ntmps42, Exit.thenS, Array.replicate, List.replicate]
  apply wpS_seq
  apply wpS_region
  simp [wpOpsS, go_sem, Exit.thenS]
  refine wpS_cond (t := true) (by simp [Act.eval]) ?_
  simp only [if_true]
  refine wpS_of_wp ?_
  go_wp2
  cases c₀
  simp_all [bodyPostS, results, Tryd.results42]

/-- What stands behind a sort: the row, the result's cells, the questions. -/
structure SoE (w0 w : World) (S base R D n : Nat) (hd : Value) (q : List (Nat × Nat)) (o : List Nat) : Prop where
  inv : Inv w0 w S base hd q
  row : w.heap[R]? = some (.cells (ints o).toArray 3 (0, 0))
  db : w.heap[D]? = some (.cells #[.int .i64 0, .slice none 0 0, .slice none 0 0] 28 (0, 0))
  len : o.length = n
  lt : ∀ z ∈ o, z < n
  r0 : w0.heap.size ≤ R

theorem SoS.toE {w0 w : World} {S base K R Pb Qb D Eb n : Nat} {hd : Value} {q : List (Nat × Nat)} {o : List Nat} (h : SoS w0 w S base K R Pb Qb D Eb n hd q o) : SoE w0 w S base R D n hd q o := ⟨h.inv, h.row, h.db, h.len, h.lt, h.r0⟩
theorem SoE.alloc {w0 w : World} {S base R D n : Nat} {hd : Value} {q : List (Nat × Nat)} {o : List Nat} (h : SoE w0 w S base R D n hd q o) (x : Obj) : SoE w0 (w.alloc x) S base R D n hd q o :=
  ⟨h.inv.alloc x, by rw [Below.heap_alloc _ _ _ (lt_of_block h.row)]; exact h.row, by rw [Below.heap_alloc _ _ _ (lt_of_block h.db)]; exact h.db, h.len, h.lt, h.r0⟩
theorem SoE.setErr {w0 w : World} {S base R D n : Nat} {hd : Value} {q : List (Nat × Nat)} {o : List Nat} (h : SoE w0 w S base R D n hd q o) {k : Nat} {c : Array Value} {m : Nat × Nat} (hk : w.heap[k]? = some (.cells c 45 m)) (hk0 : w0.heap.size ≤ k) (u : Value) : SoE w0 (w.setCell ⟨k, 0, none⟩ u) S base R D n hd q o := by
  obtain ⟨v, hv, _⟩ := h.inv.st
  exact ⟨h.inv.setCell hk (ne_of_types hv hk (by decide)) hk0 (by decide) u, by rw [Below.heap_setCell _ _ _ _ (ne_of_types h.row hk (by decide))]; exact h.row, by rw [Below.heap_setCell _ _ _ _ (ne_of_types h.db hk (by decide))]; exact h.db, h.len, h.lt, h.r0⟩
theorem SoE.drew {w0 w : World} {S base R D n : Nat} {hd : Value} {q : List (Nat × Nat)} {o : List Nat} (h : SoE w0 w S base R D n hd q o) : SoE w0 w.drew S base R D n hd q o := ⟨h.inv.drew, h.row, h.db, h.len, h.lt, h.r0⟩

/-- How 'sortBy' ends. -/
def ByEnd (w0 w' : World) (S base R D n : Nat) (hd : Value) (E : Value) (V : List (Nat × Nat) × Option (List Nat)) (en : Ending) : Prop :=
  match V.2 with
  | some o => en = .returned .nilIface ∧ SoE w0 w' S base R D n hd V.1 o
  | none => en = .returned E ∧ ∃ o, SoE w0 w' S base R D n hd V.1 o

/-- The boxes that 'sortBy' lays. -/
theorem boxes {w0 w : World} {S base R D n : Nat} {hd : Value} {o : List Nat} (h : SoE w0 w S base R D n hd [] o) :
    SoS w0 ((((w.alloc (.cells #[.slice (some ⟨R, 0, none⟩) n n] 25)).alloc (.cells #[.func (.func 26) #[.pointer (some ⟨S, 0, none⟩)] #[]] 47)).alloc (.cells #[.nilIface] 45)).alloc (.cells #[.func (.func 43) #[] #[.pointer (some ⟨w.heap.size + 1, 0, none⟩)]] 69))
      S base (w.heap.size + 1) R w.heap.size (w.heap.size + 1 + 1 + 1) D (w.heap.size + 1 + 1) n hd [] o := by
  have hE := (((h.alloc (.cells #[.slice (some ⟨R, 0, none⟩) n n] 25)).alloc (.cells #[.func (.func 26) #[.pointer (some ⟨S, 0, none⟩)] #[]] 47)).alloc (.cells #[.nilIface] 45)).alloc (.cells #[.func (.func 43) #[] #[.pointer (some ⟨w.heap.size + 1, 0, none⟩)]] 69)
  refine ⟨hE.inv, ?_, ?_, ?_, hE.row, hE.db, ?_, h.len, h.lt, h.r0⟩
  · rw [Below.heap_alloc _ _ _ (by simp), Below.heap_alloc _ _ _ (by simp)]
    have := heap_alloc_new (w.alloc (.cells #[.slice (some ⟨R, 0, none⟩) n n] 25)) (.cells #[.func (.func 26) #[.pointer (some ⟨S, 0, none⟩)] #[]] 47)
    simpa using this
  · rw [Below.heap_alloc _ _ _ (by simp; omega), Below.heap_alloc _ _ _ (by simp; omega), Below.heap_alloc _ _ _ (by simp)]
    exact heap_alloc_new _ _
  · have := heap_alloc_new (((w.alloc (.cells #[.slice (some ⟨R, 0, none⟩) n n] 25)).alloc (.cells #[.func (.func 26) #[.pointer (some ⟨S, 0, none⟩)] #[]] 47)).alloc (.cells #[.nilIface] 45)) (.cells #[.func (.func 43) #[] #[.pointer (some ⟨w.heap.size + 1, 0, none⟩)]] 69)
    simpa using this
  · rw [Below.heap_alloc _ _ _ (by simp)]
    have := heap_alloc_new ((w.alloc (.cells #[.slice (some ⟨R, 0, none⟩) n n] 25)).alloc (.cells #[.func (.func 26) #[.pointer (some ⟨S, 0, none⟩)] #[]] 47)) (.cells #[.nilIface] 45)
    simpa using this

set_option maxHeartbeats 1000000 in
/-- 'sortBy[int]'. -/
theorem by_any (w0 w : World) (S base R D : Nat) (ga : Option Addr) (gb go n cp : Nat) (A : Nat → Option Addr) (L C RB RO : Nat → Nat) (M : Nat → Nat → Int) (o : List Nat) (ea : Addr)
    (hga : 0 < n → ga = some ⟨gb, go, none⟩) (HS : Hid (Sq n L M)) (HM : Hid (MatR w0 gb go n A L C RB RO M)) (HE : Hid (w0.cell? ⟨0, 0, none⟩ = some (.iface 74 (.pointer (some ea)))))
    (HT : Hid (SoE w0 w S base R D n (.slice ga n cp) [] o)) :
    Calls Tryd.prog 25 #[.slice (some ⟨R, 0, none⟩) n n, .func (.func 26) #[.pointer (some ⟨S, 0, none⟩)] #[]] w fun en w' =>
      ByEnd w0 w' S base R D n (.slice ga n cp) (.iface 74 (.pointer (some ea))) (all M n 1 o []) en := by
  have hmf : ∀ (fn : Fn) (first cap : Array Value) (w : World), (Instr.makeFunc fn first cap).run Tryd.prog w = .ok (.func fn first cap) w := fun _ _ _ _ => rfl
  have hea := each_sort w0 _ S base (w.heap.size + 1) R w.heap.size (w.heap.size + 1 + 1 + 1) D (w.heap.size + 1 + 1) ga gb go n cp A L C RB RO M o ea hga HS HM HE (boxes HT.out)
  obtain ⟨V, hV⟩ : ∃ V, all M n 1 o [] = V := ⟨_, rfl⟩
  rw [hV] at hea ⊢
  clear hV
  obtain ⟨a1, r1⟩ := V
  go_enter_defers Tryd.func25, Tryd.ntmps25
  go_wp2_with fail
  refine hea.mono ?_
  clear hea
  rintro en w2 hend
  cases r1 with
  | some o1 =>
    obtain ⟨he, HT2⟩ := hend
    subst he
    have c := cell_of_one HT2.eb
    have z := free_of_one HT2.eb
    have HT3 : Hid _ := HT2.toE.setErr HT2.eb (by have := HT2.inv.bel.size; have := HT.out.inv.bel.size; omega) .nilIface
    have hb := one_setCell (u := .nilIface) HT2.eb
    have c3 := cell_of_one hb
    clear HT2 hb
    go_wp2
    refine leaves_cons (f := 42) (args := #[.pointer (some ⟨w.heap.size + 1 + 1, 0, none⟩)]) (by simp) (by simp [go_sem]) ?_
    refine (catch_idle _ _).mono ?_
    rintro e u' w3 ⟨rfl, rfl, rfl⟩
    simp [Leaves, settle, results, Tryd.results25, go_sem, c3]
    exact ⟨rfl, HT3.out⟩
  | none =>
    obtain ⟨he, o1, HT2⟩ := hend
    subst he
    have c := cell_of_one HT2.eb
    have z := free_of_one HT2.eb
    refine leaves_cons (f := 42) (args := #[.pointer (some ⟨w.heap.size + 1 + 1, 0, none⟩)]) (by simp) (by simp [go_sem]) ?_
    refine (catch_panicking ⟨w.heap.size + 1 + 1, 0, none⟩ (.iface 74 (.pointer (some ea))) [] 74 (.pointer (some ea)) rfl .nilIface w2 c z (lt_of_block HT2.eb)).mono ?_
    rintro e u' w3 ⟨rfl, rfl, rfl⟩
    have hb0 : (w2.alloc (.cells #[.iface 74 (.pointer (some ea))] 66)).heap[w.heap.size + 1 + 1]? = some (.cells #[.nilIface] 45 (0, 0)) := by
      rw [Below.heap_alloc _ _ _ (lt_of_block HT2.eb)]; exact HT2.eb
    have HT3 := (HT2.toE.alloc (.cells #[.iface 74 (.pointer (some ea))] 66)).setErr hb0 (by have := HT2.inv.bel.size; have := HT.out.inv.bel.size; omega) (.iface 74 (.pointer (some ea)))
    have hb := one_setCell (u := .iface 74 (.pointer (some ea))) hb0
    have c3 := cell_of_one hb
    simp [Leaves, settle, results, Tryd.results25, go_sem, c3]
    exact ⟨rfl, o1, HT3⟩

end Go.Proofs.YtgflalfiopnmnaaDoor
