import Derived.Test.YtgflalfiopnmnaaVlKo
import Derived.Sort.Grow
import Derived.Shelf.SlSortCmp.WholeK
import Derived.Shelf.SlLaysF0
import Derived.Test.YtgflalfiopnmnaaP4
import Derived.Test.YtgflalfiopnmnaaP6
namespace Go.Proofs.Ytgflalfiopnmnaa.Dr
open Go.RowKit Vl Go.Proofs.Ytgflalfiopnmnaa Go.Sort

/-- What lay there lies there, and no draw is taken back. -/
structure Below (B : Nat) (w w' : World) : Prop where
  b : Go.RowKit.Below B w w'
  d : w.drawn ≤ w'.drawn
theorem Below.refl (B : Nat) (w : World) : Below B w w := ⟨Go.RowKit.Below.refl _ _, Nat.le_refl _⟩
theorem Below.trans {B : Nat} {a b c : World} (h : Below B a b) (k : Below B b c) : Below B a c := ⟨h.b.trans k.b, Nat.le_trans h.d k.d⟩
theorem Below.mono {B B' : Nat} {w w' : World} (h : Below B w w') (hB : B' ≤ B) : Below B' w w' := ⟨h.b.mono hB, h.d⟩
theorem Below.drew {B : Nat} {a w : World} (h : Below B a w) : Below B a w.drew := ⟨h.b.drew, Nat.le_succ_of_le h.d⟩
theorem Below.alloc {B : Nat} {a w : World} (h : Below B a w) (hB : B ≤ w.heap.size) (o : Obj) : Below B a (w.alloc o) := ⟨h.b.alloc hB o, h.d⟩
theorem Below.cell {B : Nat} {w w' : World} (h : Below B w w') {p : Addr} (hp : p.block < B) : w'.cell? p = w.cell? p := h.b.cell hp
theorem Below.size {B : Nat} {w w' : World} (h : Below B w w') : w.heap.size ≤ w'.heap.size := h.b.size
theorem below_drewN {B : Nat} {a w : World} (h : Below B a w) (n : Nat) : Below B a (w.drewN n) := ⟨Go.RowKit.Below.trans h.b ⟨rfl, rfl, rfl, Nat.le_refl _, fun _ _ => rfl⟩, Nat.le_trans h.d (Nat.le_add_right _ _)⟩

theorem grw {a b c : World} (h : Below a.heap.size a b) (k : Below b.heap.size b c) : Below a.heap.size a c := h.trans (k.mono h.size)

/-- What a value of an interface says of itself: nothing. -/
theorem asNil_any (w : World) :
    Calls Try.prog 141 #[.agg #[]] w fun e w' => e = .returned (.agg #[.int .i64 0, .int .i64 0, .string ⟨#[]⟩, .int .i64 0]) ∧ Below w.heap.size w w' := by
  go_enter Try.func141, Try.ntmps141
  go_wp2
  refine bodyPost_ret (v := .agg #[.int .i64 0, .int .i64 0, .string ⟨#[]⟩, .int .i64 0]) (by simp [results, Try.results141, go_sem]) rfl ⟨rfl, ?_⟩
  exact ((Below.refl _ _).alloc (Nat.le_refl _) _).alloc (by simp) _

theorem asBool_any (b : Bool) (w : World) :
    Calls Try.prog 142 #[.agg #[.bool b]] w fun e w' => e = .returned (.agg #[.int .i64 1, .int .i64 (if b then 1 else 0), .string ⟨#[]⟩, .int .i64 0]) ∧ Below w.heap.size w w' := by
  cases b
  all_goals
    go_enter Try.func142, Try.ntmps142
    go_wp2
  · refine bodyPost_ret (v := .agg #[.int .i64 1, .int .i64 0, .string ⟨#[]⟩, .int .i64 0]) (by simp [results, Try.results142, go_sem]) rfl ⟨rfl, ?_⟩
    exact ((Below.refl _ _).alloc (Nat.le_refl _) _).alloc (by simp) _
  · refine bodyPost_ret (v := .agg #[.int .i64 1, .int .i64 1, .string ⟨#[]⟩, .int .i64 0]) (by simp [results, Try.results142, go_sem]) rfl ⟨rfl, ?_⟩
    exact ((Below.refl _ _).alloc (Nat.le_refl _) _).alloc (by simp) _

theorem asInt_any (n : Int) (w : World) :
    Calls Try.prog 143 #[.agg #[.int .i64 n]] w fun e w' => e = .returned (.agg #[.int .i64 2, .int .i64 n, .string ⟨#[]⟩, .int .i64 0]) ∧ Below w.heap.size w w' := by
  go_enter Try.func143, Try.ntmps143
  go_wp2
  refine bodyPost_ret (v := .agg #[.int .i64 2, .int .i64 n, .string ⟨#[]⟩, .int .i64 0]) (by simp [results, Try.results143, go_sem]) rfl ⟨rfl, ?_⟩
  exact ((Below.refl _ _).alloc (Nat.le_refl _) _).alloc (by simp) _

theorem asText_any (s : ByteArray) (w : World) :
    Calls Try.prog 144 #[.agg #[.string s]] w fun e w' => e = .returned (.agg #[.int .i64 3, .int .i64 0, .string s, .int .i64 0]) ∧ Below w.heap.size w w' := by
  go_enter Try.func144, Try.ntmps144
  go_wp2
  refine bodyPost_ret (v := .agg #[.int .i64 3, .int .i64 0, .string s, .int .i64 0]) (by simp [results, Try.results144, go_sem]) rfl ⟨rfl, ?_⟩
  exact ((Below.refl _ _).alloc (Nat.le_refl _) _).alloc (by simp) _

theorem asTab_any (b : Nat) (i : Int) (w : World) (h : w.cell? ⟨b, 0, none⟩ = some (.int .i64 i)) :
    Calls Try.prog 140 #[.pointer (some ⟨b, 0, none⟩)] w fun e w' => e = .returned (.agg #[.int .i64 4, .int .i64 0, .string ⟨#[]⟩, .int .i64 i]) ∧ Below w.heap.size w w' := by
  have hlt : b < w.heap.size := World.block_lt_of_cell? _ _ h
  go_enter Try.func140, Try.ntmps140
  go_wp2
  refine bodyPost_ret (v := .agg #[.int .i64 4, .int .i64 0, .string ⟨#[]⟩, .int .i64 i]) (by simp [results, Try.results140, go_sem]) rfl ⟨rfl, ?_⟩
  exact (Below.refl _ _).alloc (Nat.le_refl _) _

/-- Tables that stand in a row: number i lies at T i and says so. -/
structure Tabs (w : World) (ta : Option Addr) (tb n : Nat) (T : Nat → Nat) : Prop where
  top : 0 < n → ta = some ⟨tb, 0, none⟩
  ptr : ∀ i, i < n → w.cell? ⟨tb, i, none⟩ = some (.pointer (some ⟨T i, 0, none⟩))
  at_ : ∀ i, i < n → w.cell? ⟨T i, 0, none⟩ = some (.int .i64 i)

theorem Tabs.below {w w' : World} {ta : Option Addr} {tb n : Nat} {T : Nat → Nat} (h : Tabs w ta tb n T) (hb : Below w.heap.size w w') : Tabs w' ta tb n T :=
  ⟨h.top, fun i hi => (hb.cell (p := ⟨tb, i, none⟩) (World.block_lt_of_cell? _ _ (h.ptr i hi))).trans (h.ptr i hi),
   fun i hi => (hb.cell (p := ⟨T i, 0, none⟩) (World.block_lt_of_cell? _ _ (h.at_ i hi))).trans (h.at_ i hi)⟩

theorem Tabs.nil (w : World) : Tabs w none 0 0 (fun _ => 0) := ⟨fun h => by omega, fun i h => by omega, fun i h => by omega⟩

/-- A value as it is held. -/
def ifv (T : Nat → Nat) (v : V) : Value :=
  if v.k = 0 then .iface 151 (.agg #[])
  else if v.k = 1 then .iface 156 (.agg #[.bool (v.n == 1)])
  else if v.k = 2 then .iface 158 (.agg #[.int .i64 v.n])
  else if v.k = 3 then .iface 160 (.agg #[.string v.s])
  else .iface 63 (.pointer (some ⟨T v.a.toNat, 0, none⟩))

theorem nf_0 (n : Int) (s : ByteArray) (a : Int) (ta : Option Addr) (m cp : Nat) (w : World) :
    Calls Try.prog 107 #[.agg #[.int .i64 0, .int .i64 n, .string s, .int .i64 a], .slice ta m cp] w fun e w' => e = .returned (.tuple #[.iface 151 (.agg #[]), .bool true]) ∧ Below w.heap.size w w' := by
  go_enter Try.func107, Try.ntmps107
  go_wp2
  go_ret2
  exact ⟨rfl, (Below.refl _ _).alloc (Nat.le_refl _) _⟩

theorem nf_1 (n : Int) (s : ByteArray) (a : Int) (ta : Option Addr) (m cp : Nat) (w : World) :
    Calls Try.prog 107 #[.agg #[.int .i64 1, .int .i64 n, .string s, .int .i64 a], .slice ta m cp] w fun e w' => e = .returned (.tuple #[.iface 156 (.agg #[.bool (n == 1)]), .bool true]) ∧ Below w.heap.size w w' := by
  go_enter Try.func107, Try.ntmps107
  go_wp2
  go_ret2
  exact ⟨rfl, (Below.refl _ _).alloc (Nat.le_refl _) _⟩

theorem nf_2 (n : Int) (s : ByteArray) (a : Int) (ta : Option Addr) (m cp : Nat) (w : World) :
    Calls Try.prog 107 #[.agg #[.int .i64 2, .int .i64 n, .string s, .int .i64 a], .slice ta m cp] w fun e w' => e = .returned (.tuple #[.iface 158 (.agg #[.int .i64 n]), .bool true]) ∧ Below w.heap.size w w' := by
  go_enter Try.func107, Try.ntmps107
  go_wp2
  go_ret2
  exact ⟨rfl, (Below.refl _ _).alloc (Nat.le_refl _) _⟩

theorem nf_3 (n : Int) (s : ByteArray) (a : Int) (ta : Option Addr) (m cp : Nat) (w : World) :
    Calls Try.prog 107 #[.agg #[.int .i64 3, .int .i64 n, .string s, .int .i64 a], .slice ta m cp] w fun e w' => e = .returned (.tuple #[.iface 160 (.agg #[.string s]), .bool (decide ((s.size : Int) ≤ 500))]) ∧ Below w.heap.size w w' := by
  go_enter Try.func107, Try.ntmps107
  go_wp2
  go_quiet (fail)
  go_wp2
  go_ret2
  exact ⟨rfl, below_drewN ((Below.refl _ _).alloc (Nat.le_refl _) _) nq⟩

theorem nf_4 (n : Int) (s : ByteArray) (a : Int) (ta : Option Addr) (tb m cp : Nat) (T : Nat → Nat) (w : World) (h0 : 0 ≤ a) (h1 : a < m) (H : Hid (Tabs w ta tb m T)) :
    Calls Try.prog 107 #[.agg #[.int .i64 4, .int .i64 n, .string s, .int .i64 a], .slice ta m cp] w fun e w' => e = .returned (.tuple #[.iface 63 (.pointer (some ⟨T a.toNat, 0, none⟩)), .bool true]) ∧ Below w.heap.size w w' := by
  obtain ⟨j, rfl⟩ : ∃ j : Nat, a = j := ⟨a.toNat, by omega⟩
  obtain rfl := H.out.top (by omega)
  have hp := H.out.ptr j (by omega)
  have hlt : tb < w.heap.size := World.block_lt_of_cell? _ _ hp
  go_enter Try.func107, Try.ntmps107
  go_wp2
  go_ret2
  exact ⟨rfl, (Below.refl _ _).alloc (Nat.le_refl _) _⟩

theorem nf_4no (n : Int) (s : ByteArray) (a : Int) (ta : Option Addr) (m cp : Nat) (w : World) (h : ¬ (0 ≤ a ∧ a < m)) :
    Calls Try.prog 107 #[.agg #[.int .i64 4, .int .i64 n, .string s, .int .i64 a], .slice ta m cp] w fun e w' => e = .returned (.tuple #[.nilIface, .bool false]) ∧ Below w.heap.size w w' := by
  by_cases h0 : 0 ≤ a
  · have h1 : ¬ a < m := fun h1 => h ⟨h0, h1⟩
    go_enter Try.func107, Try.ntmps107
    go_wp2
    go_ret2
    exact ⟨rfl, (Below.refl _ _).alloc (Nat.le_refl _) _⟩
  · go_enter Try.func107, Try.ntmps107
    go_wp2
    go_ret2
    exact ⟨rfl, (Below.refl _ _).alloc (Nat.le_refl _) _⟩

theorem nf_no (k n : Int) (s : ByteArray) (a : Int) (ta : Option Addr) (m cp : Nat) (w : World) (h0 : (k == 0) = false) (h1 : (k == 1) = false) (h2 : (k == 2) = false) (h3 : (k == 3) = false) (h4 : (k == 4) = false) :
    Calls Try.prog 107 #[.agg #[.int .i64 k, .int .i64 n, .string s, .int .i64 a], .slice ta m cp] w fun e w' => e = .returned (.tuple #[.nilIface, .bool false]) ∧ Below w.heap.size w w' := by
  go_enter Try.func107, Try.ntmps107
  go_wp2
  go_ret2
  exact ⟨rfl, (Below.refl _ _).alloc (Nat.le_refl _) _⟩

/-- The four cells of a value. -/
def ValAt (w : World) (b o : Nat) (k n : Int) (s : ByteArray) (a : Int) : Prop :=
  w.cell? ⟨b, o, none⟩ = some (.int .i64 k) ∧ w.cell? ⟨b, o + 1, none⟩ = some (.int .i64 n) ∧ w.cell? ⟨b, o + 2, none⟩ = some (.string s) ∧ w.cell? ⟨b, o + 3, none⟩ = some (.int .i64 a)

theorem ValAt.below {w w' : World} {b o : Nat} {k n : Int} {s : ByteArray} {a : Int} (h : ValAt w b o k n s a) (hb : Below w.heap.size w w') : ValAt w' b o k n s a := by
  have hlt : b < w.heap.size := World.block_lt_of_cell? _ _ h.1
  exact ⟨(hb.cell hlt).trans h.1, (hb.cell hlt).trans h.2.1, (hb.cell hlt).trans h.2.2.1, (hb.cell hlt).trans h.2.2.2⟩

theorem ValAt.new (w : World) (k n : Int) (s : ByteArray) (a : Int) : ValAt (w.alloc (Obj.cells #[.int .i64 k, .int .i64 n, .string s, .int .i64 a] 24)) w.heap.size 0 k n s a := by
  refine ⟨?_, ?_, ?_, ?_⟩ <;> simp [World.cell?_alloc_new]

theorem neq_val (k n : Int) (s : ByteArray) (a : Int) (k' n' : Int) (s' : ByteArray) (a' : Int) (w : World) :
    (binOp .neq 24 (.agg #[.int .i64 k', .int .i64 n', .string s', .int .i64 a']) (.agg #[.int .i64 k, .int .i64 n, .string s, .int .i64 a])).run Try.prog w = .ok (.bool (!(k' == k && (n' == n && (s'.toList == s.toList && a' == a))))) w := by
  go_simp
  by_cases h1 : k' = k <;> by_cases h2 : n' = n <;> by_cases h3 : s'.toList = s.toList <;> by_cases h4 : a' = a <;> simp [h1, h2, h3, h4]

set_option maxHeartbeats 1000000 in
set_option maxRecDepth 100000 in
theorem of_yes (k n : Int) (s : ByteArray) (a : Int) (k' n' : Int) (s' : ByteArray) (a' : Int) (t : TypeId) (x : Value) (F : Nat) (ta : Option Addr) (m cp : Nat) (w : World)
    (hnf : ∀ w0, Below w.heap.size w w0 → Calls Try.prog 107 #[.agg #[.int .i64 k, .int .i64 n, .string s, .int .i64 a], .slice ta m cp] w0 fun e w' => e = .returned (.tuple #[.iface t x, .bool true]) ∧ Below w0.heap.size w0 w')
    (hm : ∀ w f, (method (f + 3) t x "loop.example/cloth/impl.asVal").run Try.prog w = .ok (F, x) w)
    (hf : ∀ args w, (callFunc F args).run Try.prog w = .ok (.enter F args) w)
    (hcall : ∀ w0, Below w.heap.size w w0 → Calls Try.prog F #[x] w0 fun e w' => e = .returned (.agg #[.int .i64 k', .int .i64 n', .string s', .int .i64 a']) ∧ Below w0.heap.size w0 w')
    (b : Bool) (hb : (k' == k && (n' == n && (s'.toList == s.toList && a' == a))) = b) :
    Calls Try.prog 87 #[.agg #[.int .i64 k, .int .i64 n, .string s, .int .i64 a], .slice ta m cp] w fun e w' => e = .returned (.tuple #[if b then .iface t x else .nilIface, .bool b]) ∧ Below w.heap.size w w' := by
  have hne := neq_val k n s a k' n' s' a'
  rw [hb] at hne
  have hb0 : Below w.heap.size w (w.alloc (Obj.cells #[.int .i64 k, .int .i64 n, .string s, .int .i64 a] 24)) := (Below.refl _ _).alloc (Nat.le_refl _) _
  go_enter Try.func87, Try.ntmps87
  go_wp2_with fail
  refine (hnf _ hb0).mono ?_
  rintro e w1 ⟨rfl, hb1⟩
  have hv := (ValAt.new w k n s a).below hb1
  have hB1 : Hid (Below w.heap.size w w1) := grw hb0 hb1
  have c0 := hv.1; have c1 := hv.2.1; have c2 := hv.2.2.1; have c3 := hv.2.2.2
  simp only [Nat.zero_add] at c1 c2 c3
  clear hnf hb0
  go_wp2
  go_region_held3 (fun w' => w'.cell? ⟨w.heap.size, 0, none⟩ = some (.int .i64 k) ∧ w'.cell? ⟨w.heap.size, 1, none⟩ = some (.int .i64 n) ∧ w'.cell? ⟨w.heap.size, 2, none⟩ = some (.string s) ∧ w'.cell? ⟨w.heap.size, 3, none⟩ = some (.int .i64 a)) 
    (first | exact ⟨c0, c1, c2, c3⟩ | exact (ValAt.below (w := w1.drew) ⟨c0, c1, c2, c3⟩ hb2))
    ((refine (hcall _ hB1.out.drew).mono ?_; rintro e w2 ⟨rfl, hb2⟩))
  clear hne hb hm hcall hf
  have hB2 : Hid (Below w.heap.size w w2) := grw hB1.out.drew hb2
  cases b
  · go_wp2
    go_ret2
    exact ⟨rfl, hB2.out⟩
  · go_wp2
    go_ret2
    exact ⟨rfl, hB2.out⟩

theorem of_no (k n : Int) (s : ByteArray) (a : Int) (x : Value) (ta : Option Addr) (m cp : Nat) (w : World)
    (hnf : ∀ w0, Below w.heap.size w w0 → Calls Try.prog 107 #[.agg #[.int .i64 k, .int .i64 n, .string s, .int .i64 a], .slice ta m cp] w0 fun e w' => e = .returned (.tuple #[x, .bool false]) ∧ Below w0.heap.size w0 w') :
    Calls Try.prog 87 #[.agg #[.int .i64 k, .int .i64 n, .string s, .int .i64 a], .slice ta m cp] w fun e w' => e = .returned (.tuple #[.nilIface, .bool false]) ∧ Below w.heap.size w w' := by
  have hb0 : Below w.heap.size w (w.alloc (Obj.cells #[.int .i64 k, .int .i64 n, .string s, .int .i64 a] 24)) := (Below.refl _ _).alloc (Nat.le_refl _) _
  go_enter Try.func87, Try.ntmps87
  go_wp2_with fail
  refine (hnf _ hb0).mono ?_
  rintro e w1 ⟨rfl, hb1⟩
  have hB1 : Hid (Below w.heap.size w w1) := grw hb0 hb1
  clear hnf hb0 hb1
  go_wp2
  go_quiet (fail)
  go_wp2
  go_ret2
  exact ⟨rfl, below_drewN hB1.out nq⟩

theorem meth_0 (w : World) (f : Nat) : (method (f + 3) 151 (.agg #[]) "loop.example/cloth/impl.asVal").run Try.prog w = .ok (141, .agg #[]) w := by kernel_rfl
theorem meth_1 (b : Bool) (w : World) (f : Nat) : (method (f + 3) 156 (.agg #[.bool b]) "loop.example/cloth/impl.asVal").run Try.prog w = .ok (142, .agg #[.bool b]) w := by kernel_rfl
theorem meth_2 (n : Int) (w : World) (f : Nat) : (method (f + 3) 158 (.agg #[.int .i64 n]) "loop.example/cloth/impl.asVal").run Try.prog w = .ok (143, .agg #[.int .i64 n]) w := by kernel_rfl
theorem meth_3 (s : ByteArray) (w : World) (f : Nat) : (method (f + 3) 160 (.agg #[.string s]) "loop.example/cloth/impl.asVal").run Try.prog w = .ok (144, .agg #[.string s]) w := by kernel_rfl
theorem meth_4 (b : Nat) (w : World) (f : Nat) : (method (f + 3) 63 (.pointer (some ⟨b, 0, none⟩)) "loop.example/cloth/impl.asVal").run Try.prog w = .ok (140, .pointer (some ⟨b, 0, none⟩)) w := by kernel_rfl

/-- 'valueOf'. -/
theorem of_any (v : V) (ta : Option Addr) (tb m cp : Nat) (T : Nat → Nat) (w : World) (H : Hid (Tabs w ta tb m T)) :
    Calls Try.prog 87 #[.agg #[.int .i64 v.k, .int .i64 v.n, .string v.s, .int .i64 v.a], .slice ta m cp] w fun e w' => e = .returned (.tuple #[if isV m v then ifv T v else .nilIface, .bool (isV m v)]) ∧ Below w.heap.size w w' := by
  obtain ⟨k, n, s, a⟩ := v
  simp only
  have eq0 : ∀ x : Int, ((0 : Int) == x) = (x == 0) := fun x => Bool.eq_iff_iff.2 (by simp only [beq_iff_eq]; exact eq_comm)
  have eqs : (([] : List UInt8) == s.toList) = (s.toList == []) := Bool.eq_iff_iff.2 (by simp only [beq_iff_eq]; exact eq_comm)
  have hes : (ByteArray.mk #[]).toList = [] := by rw [ByteArray.toList_eq]
  by_cases k0 : k = 0
  · subst k0
    refine (of_yes 0 n s a 0 0 ⟨#[]⟩ 0 _ _ _ ta m cp w (fun w0 _ => nf_0 n s a ta m cp w0) meth_0 Try.call141 (fun w0 _ => asNil_any w0) (isV m ⟨0, n, s, a⟩) ?_).mono ?_
    · rw [hes, eq0 n, eq0 a, eqs]; rfl
    · rintro e w' ⟨rfl, h⟩
      exact ⟨rfl, h⟩
  by_cases k1 : k = 1
  · subst k1
    refine (of_yes 1 n s a 1 (if (n == 1) then 1 else 0) ⟨#[]⟩ 0 _ _ _ ta m cp w (fun w0 _ => nf_1 n s a ta m cp w0) (meth_1 _) Try.call142 (fun w0 _ => asBool_any _ w0) (isV m ⟨1, n, s, a⟩) ?_).mono ?_
    · rw [hes, eq0 a, eqs]
      show (true && (((if (n == 1) = true then (1 : Int) else 0) == n) && _)) = ((n == 0 || n == 1) && _)
      by_cases h1 : n = 1
      · subst h1; rfl
      · have : (n == 1) = false := by simpa using h1
        rw [this, if_neg (by simp), eq0 n, Bool.or_false, Bool.true_and]
    · rintro e w' ⟨rfl, h⟩
      exact ⟨rfl, h⟩
  by_cases k2 : k = 2
  · subst k2
    refine (of_yes 2 n s a 2 n ⟨#[]⟩ 0 _ _ _ ta m cp w (fun w0 _ => nf_2 n s a ta m cp w0) (meth_2 _) Try.call143 (fun w0 _ => asInt_any _ w0) (isV m ⟨2, n, s, a⟩) ?_).mono ?_
    · rw [hes, eq0 a, eqs, beq_self_eq_true n]; rfl
    · rintro e w' ⟨rfl, h⟩
      exact ⟨rfl, h⟩
  by_cases k3 : k = 3
  · subst k3
    by_cases hs : (s.size : Int) ≤ 500
    · have hd : decide ((s.size : Int) ≤ 500) = true := by simpa using hs
      refine (of_yes 3 n s a 3 0 s 0 _ _ _ ta m cp w (fun w0 _ => hd ▸ nf_3 n s a ta m cp w0) (meth_3 _) Try.call144 (fun w0 _ => asText_any _ w0) (isV m ⟨3, n, s, a⟩) ?_).mono ?_
      · rw [eq0 a, eq0 n, beq_self_eq_true s.toList]
        have hd' : decide (s.size ≤ 500) = true := by simpa using (by omega : s.size ≤ 500)
        show (true && (n == 0 && (true && a == 0))) = (n == 0 && (a == 0 && decide (s.size ≤ 500)))
        rw [hd', Bool.and_true, Bool.true_and, Bool.true_and]
      · rintro e w' ⟨rfl, h⟩
        exact ⟨rfl, h⟩
    · have hd : decide ((s.size : Int) ≤ 500) = false := by simpa using hs
      have hno : isV m ⟨3, n, s, a⟩ = false := by
        have hd' : decide (s.size ≤ 500) = false := by simpa using (by omega : ¬ s.size ≤ 500)
        show (n == 0 && (a == 0 && decide (s.size ≤ 500))) = false
        rw [hd', Bool.and_false, Bool.and_false]
      rw [hno]
      exact of_no 3 n s a _ ta m cp w (fun w0 _ => hd ▸ nf_3 n s a ta m cp w0)
  by_cases k4 : k = 4
  · subst k4
    by_cases ha : 0 ≤ a ∧ a < m
    · refine (of_yes 4 n s a 4 0 ⟨#[]⟩ a _ _ _ ta m cp w (fun w0 hb => nf_4 n s a ta tb m cp T w0 ha.1 ha.2 (H.out.below hb)) (meth_4 _) Try.call140 (fun w0 hb => asTab_any _ a w0 ?_) (isV m ⟨4, n, s, a⟩) ?_).mono ?_
      · have := (H.out.below hb).at_ a.toNat (by omega)
        rw [this]; congr 2; omega
      · rw [hes, eq0 n, eqs, beq_self_eq_true a]
        have h1 : decide (0 ≤ a) = true := by simpa using ha.1
        have h2 : decide (a < m) = true := by simpa using ha.2
        show (true && (n == 0 && (s.toList == [] && true))) = (n == 0 && (s.toList == [] && (decide (0 ≤ a) && decide (a < m))))
        rw [h1, h2]; rfl
      · rintro e w' ⟨rfl, h⟩
        exact ⟨rfl, h⟩
    · have hno : isV m ⟨4, n, s, a⟩ = false := by
        have hd : (decide (0 ≤ a) && decide (a < m)) = false := by
          rw [← Bool.decide_and]; simpa using ha
        show (n == 0 && (s.toList == [] && (decide (0 ≤ a) && decide (a < m)))) = false
        rw [hd, Bool.and_false, Bool.and_false]
      rw [hno]
      exact of_no 4 n s a _ ta m cp w (fun w0 _ => nf_4no n s a ta m cp w0 ha)
  · have hno : isV m ⟨k, n, s, a⟩ = false := by simp [isV, k0, k1, k2, k3, k4]
    rw [hno]
    exact of_no k n s a _ ta m cp w (fun w0 _ => nf_no k n s a ta m cp w0 (by simpa using k0) (by simpa using k1) (by simpa using k2) (by simpa using k3) (by simpa using k4))

theorem isKey_of (k n : Int) (s : ByteArray) (a : Int) (w : World) (x : Value) (t : TypeId) (b b1 b2 b3 : Bool) (y1 y2 y3 : Value) (hb : (b1 || (b2 || b3)) = b)
    (h1 : ∀ w, (Instr.typeAssert (.iface t x) 68 156 true).run Try.prog w = .ok (.tuple #[y1, .bool b1]) w)
    (h2 : ∀ w, (Instr.typeAssert (.iface t x) 68 158 true).run Try.prog w = .ok (.tuple #[y2, .bool b2]) w)
    (h3 : ∀ w, (Instr.typeAssert (.iface t x) 68 160 true).run Try.prog w = .ok (.tuple #[y3, .bool b3]) w)
    (hof : ∀ w, Calls Try.prog 87 #[.agg #[.int .i64 k, .int .i64 n, .string s, .int .i64 a], .slice none 0 0] w fun e w' => e = .returned (.tuple #[.iface t x, .bool true]) ∧ Below w.heap.size w w') :
    Calls Try.prog 58 #[.agg #[.int .i64 k, .int .i64 n, .string s, .int .i64 a]] w fun e w' => e = .returned (.bool b) ∧ Below w.heap.size w w' := by
  have hb0 : Hid (Below w.heap.size w (w.alloc (Obj.cells #[.int .i64 k, .int .i64 n, .string s, .int .i64 a] 24))) := (Below.refl _ _).alloc (Nat.le_refl _) _
  subst hb
  go_enter Try.func58, Try.ntmps58
  go_wp2_with fail
  refine (hof _).mono ?_
  rintro e w1 ⟨rfl, hb1⟩
  have HB : Hid (Below w.heap.size w w1) := grw hb0.out hb1
  clear hb1 hof hb0
  cases b1 <;> cases b2 <;> cases b3
  all_goals
    go_wp2
    go_ret
    exact ⟨rfl, HB.out⟩

/-- 'isKey'. -/
theorem isKey_any (v : V) (w : World) :
    Calls Try.prog 58 #[.agg #[.int .i64 v.k, .int .i64 v.n, .string v.s, .int .i64 v.a]] w fun e w' => e = .returned (.bool (isK v)) ∧ Below w.heap.size w w' := by
  obtain ⟨k, n, s, a⟩ := v
  simp only
  have hof := fun w => of_any ⟨k, n, s, a⟩ none 0 0 0 (fun _ => 0) w (Tabs.nil _)
  obtain ⟨b, hbv⟩ : ∃ b, isV 0 ⟨k, n, s, a⟩ = b := ⟨_, rfl⟩
  simp only [hbv] at hof
  cases b
  · have hno : isK ⟨k, n, s, a⟩ = false := by simp [isK, hbv]
    rw [hno]
    clear hbv hno
    have hb0 : Hid (Below w.heap.size w (w.alloc (Obj.cells #[.int .i64 k, .int .i64 n, .string s, .int .i64 a] 24))) := (Below.refl _ _).alloc (Nat.le_refl _) _
    go_enter Try.func58, Try.ntmps58
    go_wp2_with fail
    refine (hof _).mono ?_
    rintro e w1 ⟨rfl, hb1⟩
    go_wp2
    go_ret
    exact ⟨rfl, grw hb0.out hb1⟩
  · have hk : isK ⟨k, n, s, a⟩ = (k == 1 || k == 2 || k == 3) := by simp [isK, hbv]
    rw [hk]
    by_cases k0 : k = 0
    · subst k0
      exact isKey_of 0 n s a w _ _ _ false false false (.agg #[.bool false]) (.agg #[.int .i64 0]) (.agg #[.string ⟨#[]⟩]) rfl (fun _ => by kernel_rfl) (fun _ => by kernel_rfl) (fun _ => by kernel_rfl) hof
    by_cases k1 : k = 1
    · subst k1
      exact isKey_of 1 n s a w _ _ _ true false false (.agg #[.bool (n == 1)]) (.agg #[.int .i64 0]) (.agg #[.string ⟨#[]⟩]) rfl (fun _ => by kernel_rfl) (fun _ => by kernel_rfl) (fun _ => by kernel_rfl) hof
    by_cases k2 : k = 2
    · subst k2
      exact isKey_of 2 n s a w _ _ _ false true false (.agg #[.bool false]) (.agg #[.int .i64 n]) (.agg #[.string ⟨#[]⟩]) rfl (fun _ => by kernel_rfl) (fun _ => by kernel_rfl) (fun _ => by kernel_rfl) hof
    by_cases k3 : k = 3
    · subst k3
      exact isKey_of 3 n s a w _ _ _ false false true (.agg #[.bool false]) (.agg #[.int .i64 0]) (.agg #[.string s]) rfl (fun _ => by kernel_rfl) (fun _ => by kernel_rfl) (fun _ => by kernel_rfl) hof
    · exfalso
      by_cases k4 : k = 4
      · subst k4
        have : (n == 0 && (s.toList == [] && (decide (0 ≤ a) && decide (a < ((0 : Nat) : Int))))) = true := hbv
        simp at this
        omega
      · simp [isV, k0, k1, k2, k3, k4] at hbv

theorem boxes (w : World) (u v : V) : Below w.heap.size w ((w.alloc (Obj.cells #[.int .i64 u.k, .int .i64 u.n, .string u.s, .int .i64 u.a] 24)).alloc (Obj.cells #[.int .i64 v.k, .int .i64 v.n, .string v.s, .int .i64 v.a] 24)) :=
  ((Below.refl _ _).alloc (Nat.le_refl _) _).alloc (by simp) _

set_option maxHeartbeats 1000000 in
set_option maxRecDepth 100000 in
/-- 'impl.KeyOrder'. -/
theorem implKo_any (u v : V) (w : World) :
    Calls Try.prog 25 #[.agg #[.int .i64 u.k, .int .i64 u.n, .string u.s, .int .i64 u.a], .agg #[.int .i64 v.k, .int .i64 v.n, .string v.s, .int .i64 v.a]] w fun e w' => e = .returned (.int .i64 (ko u v)) ∧ Below w.heap.size w w' := by
  have hb0 : Hid _ := boxes w u v
  by_cases h1 : isK u = true
  · by_cases h2 : isK v = true
    · have HK : Hid (orI (cmpI u.k v.k) (cmpI u.n v.n) (cmpS u.s v.s) = ko u v) := ko_eq h1 h2
      rw [← HK.out]
      go_enter Try.func25, Try.ntmps25
      go_wp2_with fail
      refine (isKey_any u _).mono ?_
      rintro e w1 ⟨rfl, hb1⟩
      rw [h1]
      have hv1 : ValAt w1 (w.heap.size + 1) 0 v.k v.n v.s v.a := by
        have := (ValAt.new (w.alloc (Obj.cells #[.int .i64 u.k, .int .i64 u.n, .string u.s, .int .i64 u.a] 24)) v.k v.n v.s v.a).below hb1
        simpa using this
      have hu1 : ValAt w1 w.heap.size 0 u.k u.n u.s u.a := ((ValAt.new w u.k u.n u.s u.a).below ((Below.refl _ _).alloc (Nat.le_refl _) _)).below hb1
      have hB1 : Hid (Below w.heap.size w w1) := grw hb0.out hb1
      clear hb1
      have d0 := hv1.1; have d1 := hv1.2.1; have d2 := hv1.2.2.1; have d3 := hv1.2.2.2
      simp only [Nat.zero_add] at d1 d2 d3
      go_wp2_with fail
      refine (isKey_any v _).mono ?_
      rintro e w2 ⟨rfl, hb2⟩
      rw [h2]
      have hv2 := hv1.below hb2
      have hu2 := hu1.below hb2
      have hB2 : Hid (Below w.heap.size w w2) := grw hB1.out hb2
      clear d0 d1 d2 d3 hv1 hu1 hB1 hb2 hb0 HK h1 h2
      have d0 := hv2.1; have d1 := hv2.2.1; have d2 := hv2.2.2.1; have d3 := hv2.2.2.2
      have c0 := hu2.1; have c1 := hu2.2.1; have c2 := hu2.2.2.1; have c3 := hu2.2.2.2
      simp only [Nat.zero_add] at d1 d2 d3 c1 c2 c3
      clear hv2 hu2
      have hl : w.heap.size < w2.heap.size := World.block_lt_of_cell? _ _ c0
      have hl' : w.heap.size + 1 < w2.heap.size := World.block_lt_of_cell? _ _ d0
      go_wp2
      go_region_held3 (fun w' => w'.cell? ⟨w.heap.size, 0, none⟩ = some (.int .i64 u.k) ∧ w'.cell? ⟨w.heap.size, 1, none⟩ = some (.int .i64 u.n) ∧ w'.cell? ⟨w.heap.size, 2, none⟩ = some (.string u.s) ∧ w'.cell? ⟨w.heap.size + 1, 0, none⟩ = some (.int .i64 v.k) ∧ w'.cell? ⟨w.heap.size + 1, 1, none⟩ = some (.int .i64 v.n) ∧ w'.cell? ⟨w.heap.size + 1, 2, none⟩ = some (.string v.s))
        (first | exact ⟨c0, c1, c2, d0, d1, d2⟩ | go_keep)
        (first
          | (go_at_call 60; refine (cmpI_any _ _ _).mono ?_; rintro e w' ⟨rfl, rfl⟩)
          | (go_at_call 61; refine (cmpL_any _ _ _).mono ?_; rintro e w' ⟨rfl, rfl⟩)
          | (go_at_call 62; refine (cmpS_any _ _ _).mono ?_; rintro e w' ⟨rfl, rfl⟩)
          | (go_at_call 59; refine (or_any _ _ _ _ _ (World.cell?_alloc_new _ _ _ _) (World.cell?_alloc_new _ _ _ _) (World.cell?_alloc_new _ _ _ _)).mono ?_; rintro e w' ⟨rfl, rfl⟩))
      go_wp2
      go_ret
      exact ⟨rfl, (hB2.out.alloc (Nat.le_of_lt hl) _).drew⟩
    · have h2' : isK v = false := by simpa using h2
      have HK : Hid (ko u v = 2) := show ko u v = 2 by unfold ko; rw [h2', Bool.and_false, if_neg (by simp)]
      rw [HK.out]
      go_enter Try.func25, Try.ntmps25
      go_wp2_with fail
      refine (isKey_any u _).mono ?_
      rintro e w1 ⟨rfl, hb1⟩
      rw [h1]
      have hv1 : ValAt w1 (w.heap.size + 1) 0 v.k v.n v.s v.a := by
        have := (ValAt.new (w.alloc (Obj.cells #[.int .i64 u.k, .int .i64 u.n, .string u.s, .int .i64 u.a] 24)) v.k v.n v.s v.a).below hb1
        simpa using this
      have hB1 : Hid (Below w.heap.size w w1) := grw hb0.out hb1
      clear hb1
      have d0 := hv1.1; have d1 := hv1.2.1; have d2 := hv1.2.2.1; have d3 := hv1.2.2.2
      simp only [Nat.zero_add] at d1 d2 d3
      go_wp2_with fail
      refine (isKey_any v _).mono ?_
      rintro e w2 ⟨rfl, hb2⟩
      rw [h2']
      go_wp2
      go_ret
      exact ⟨rfl, grw hB1.out hb2⟩
  · have h1' : isK u = false := by simpa using h1
    have HK : Hid (ko u v = 2) := show ko u v = 2 by unfold ko; rw [h1', Bool.false_and, if_neg (by simp)]
    rw [HK.out]
    go_enter Try.func25, Try.ntmps25
    go_wp2_with fail
    refine (isKey_any u _).mono ?_
    rintro e w1 ⟨rfl, hb1⟩
    rw [h1']
    go_wp2
    go_ret
    exact ⟨rfl, grw hb0.out hb1⟩

/-- 'impl.KeyOrder' lays new blocks and draws: nothing else. -/
theorem implKo_grows (u v : V) (w : World) :
    Calls Try.prog 25 #[.agg #[.int .i64 u.k, .int .i64 u.n, .string u.s, .int .i64 u.a], .agg #[.int .i64 v.k, .int .i64 v.n, .string v.s, .int .i64 v.a]] w fun e w' => e = .returned (.int .i64 (ko u v)) ∧ ∃ q os', w' = grow (w.drewN q) os' := by
  refine (implKo_any u v w).mono ?_
  rintro e w' ⟨he, hb⟩
  refine ⟨he, w'.drawn - w.drawn, w'.heap.extract w.heap.size w'.heap.size, ?_⟩
  have hd := hb.d
  have h1 : w'.heap = w.heap ++ w'.heap.extract w.heap.size w'.heap.size := by
    apply Array.ext_getElem?
    intro i
    rcases Nat.lt_or_ge i w.heap.size with h | h
    · rw [hb.b.block i h, Array.getElem?_append_left h]
    · rw [Array.getElem?_append_right h, Array.getElem?_extract]
      have e : w.heap.size + (i - w.heap.size) = i := by omega
      have hs := hb.b.size
      by_cases hi : i < w'.heap.size
      · rw [if_pos (by omega), e]
      · rw [if_neg (by omega), Array.getElem?_eq_none (by omega)]
  have h2 : w.drawn + (w'.drawn - w.drawn) = w'.drawn := by omega
  obtain ⟨h, t, d, o, p⟩ := w'
  simp only [grow, World.drewN, World.mk.injEq]
  exact ⟨h1, hb.b.tape, h2.symm, hb.b.os, hb.b.output⟩

end Go.Proofs.Ytgflalfiopnmnaa.Dr

namespace Go.Proofs.Ytgflalfiopnmnaa
open Go.Shelf

/-- The sort of keys, laid at this program. -/
def Try.sortVal_ren : Go.Shelf.Ren := ⟨fun | 6 => 72 | 15 => 96 | 14 => 95 | 28 => 116 | 29 => 117 | 20 => 108 | 21 => 109 | 22 => 110 | 23 => 111 | 24 => 112 | 25 => 113 | 26 => 114 | 27 => 115 | 46 => 118 | 47 => 119 | 48 => 120 | 49 => 121 | 50 => 122 | 57 => 123 | n => n, fun | 22 => 36 | 24 => 24 | 25 => 43 | 3 => 3 | 39 => 165 | 0 => 0 | 53 => 190 | 55 => 53 | 4 => 4 | 46 => 183 | 45 => 182 | 50 => 187 | 5 => 5 | 9 => 9 | 66 => 194 | 70 => 198 | 76 => 200 | 77 => 201 | n => n, fun | n => n⟩
theorem Try.sortVal : SlLaysF0.n6 Try.prog Try.sortVal_ren := {
  mixed := by kernel_rfl
  f6 := ⟨Try.f72.name, by decide, Try.func72.trans (congrArg some (by kernel_rfl))⟩
  f14 := ⟨Try.f95.name, by decide, Try.func95.trans (congrArg some (by kernel_rfl))⟩
  f15 := Try.func96.trans (congrArg some (by kernel_rfl))
  f20 := ⟨Try.f108.name, by decide, Try.func108.trans (congrArg some (by kernel_rfl))⟩
  f21 := ⟨Try.f109.name, by decide, Try.func109.trans (congrArg some (by kernel_rfl))⟩
  f22 := ⟨Try.f110.name, by decide, Try.func110.trans (congrArg some (by kernel_rfl))⟩
  f23 := ⟨Try.f111.name, by decide, Try.func111.trans (congrArg some (by kernel_rfl))⟩
  f24 := ⟨Try.f112.name, by decide, Try.func112.trans (congrArg some (by kernel_rfl))⟩
  f25 := ⟨Try.f113.name, by decide, Try.func113.trans (congrArg some (by kernel_rfl))⟩
  f26 := ⟨Try.f114.name, by decide, Try.func114.trans (congrArg some (by kernel_rfl))⟩
  f27 := ⟨Try.f115.name, by decide, Try.func115.trans (congrArg some (by kernel_rfl))⟩
  f28 := Try.func116.trans (congrArg some (by kernel_rfl))
  f29 := Try.func117.trans (congrArg some (by kernel_rfl))
  f46 := ⟨Try.f118.name, by decide, Try.func118.trans (congrArg some (by kernel_rfl))⟩
  f47 := Try.func119.trans (congrArg some (by kernel_rfl))
  f48 := Try.func120.trans (congrArg some (by kernel_rfl))
  f49 := ⟨Try.f121.name, by decide, Try.func121.trans (congrArg some (by kernel_rfl))⟩
  f50 := ⟨Try.f122.name, by decide, Try.func122.trans (congrArg some (by kernel_rfl))⟩
  f57 := ⟨Try.f123.name, by decide, Try.func123.trans (congrArg some (by kernel_rfl))⟩
  t0 := Try.underlying0
  a0 := Try.isAgg0
  z0 := Try.sizeOf0
  v0 := Try.zeroValue0
  t3 := Try.underlying3
  a3 := Try.isAgg3
  z3 := Try.sizeOf3
  v3 := Try.zeroValue3
  t4 := Try.underlying4
  a4 := Try.isAgg4
  z4 := Try.sizeOf4
  v4 := Try.zeroValue4
  t5 := Try.underlying5
  a5 := Try.isAgg5
  z5 := Try.sizeOf5
  v5 := Try.zeroValue5
  t9 := Try.underlying9
  a9 := Try.isAgg9
  z9 := Try.sizeOf9
  v9 := Try.zeroValue9
  t22 := Try.underlying36
  a22 := Try.isAgg36
  z22 := Try.sizeOf36
  v22 := Try.zeroValue36
  t25 := Try.underlying43
  a25 := Try.isAgg43
  z25 := Try.sizeOf43
  v25 := Try.zeroValue43
  t39 := Try.underlying165
  a39 := Try.isAgg165
  z39 := Try.sizeOf165
  v39 := Try.zeroValue165
  t45 := Try.underlying182
  a45 := Try.isAgg182
  z45 := Try.sizeOf182
  v45 := Try.zeroValue182
  t46 := Try.underlying183
  a46 := Try.isAgg183
  z46 := Try.sizeOf183
  v46 := Try.zeroValue183
  t50 := Try.underlying187
  a50 := Try.isAgg187
  z50 := Try.sizeOf187
  v50 := Try.zeroValue187
  t53 := Try.underlying190
  a53 := Try.isAgg190
  z53 := Try.sizeOf190
  v53 := Try.zeroValue190
  t55 := Try.underlying53
  a55 := Try.isAgg53
  z55 := Try.sizeOf53
  v55 := Try.zeroValue53
  t66 := Try.underlying194
  a66 := Try.isAgg194
  z66 := Try.sizeOf194
  v66 := Try.zeroValue194
  t70 := Try.underlying198
  a70 := Try.isAgg198
  z70 := Try.sizeOf198
  v70 := Try.zeroValue198
  t76 := Try.underlying200
  a76 := Try.isAgg200
  z76 := Try.sizeOf200
  v76 := Try.zeroValue200
  t77 := Try.underlying201
  a77 := Try.isAgg201
  z77 := Try.sizeOf201
  v77 := Try.zeroValue201 }

end Go.Proofs.Ytgflalfiopnmnaa

namespace Go.Proofs.Ytgflalfiopnmnaa
open Go.RowKit Vl

/-- A cell of a row that is owned is written. -/
theorem owns_set {w : World} {base t s n g cap : Nat} {xs : List Value} (h : w.ownsRow base t s (.slice (some ⟨g, 0, none⟩) n cap) n xs) (i : Nat) (y : Value) : (w.setCell ⟨g, i, none⟩ y).ownsRow base t s (.slice (some ⟨g, 0, none⟩) n cap) n (xs.set i y) := by
  refine ⟨by rw [List.length_set]; exact h.1, ?_⟩
  rcases h.2 with ⟨hv, _⟩ | ⟨g', cap', cur, hv, hge, hh, hl, hm, hs, ht⟩
  · cases hv
  · cases hv
    refine Or.inr ⟨g, cap, cur.setIfInBounds i y, rfl, hge, ?_, hl, hm, by simpa using hs, ?_⟩
    · simp [World.setCell, Array.getElem?_modify, hh]
    · rw [Array.toList_setIfInBounds, List.take_set, ht]

/-- A pair is written into a row of pairs. -/
theorem pairCells_put {K X : Nat → V} {c j : Nat} (hj : j < c) (k x : V) :
    ((((((((pairCells K X c).set (j * 8) (.int .i64 k.k)).set (j * 8 + 1) (.int .i64 k.n)).set (j * 8 + 2) (.string k.s)).set (j * 8 + 3) (.int .i64 k.a)).set (j * 8 + 4) (.int .i64 x.k)).set (j * 8 + 5) (.int .i64 x.n)).set (j * 8 + 6) (.string x.s)).set (j * 8 + 7) (.int .i64 x.a)
      = pairCells (fun i => if i = j then k else K i) (fun i => if i = j then x else X i) c := by
  apply List.ext_getElem?
  intro m
  by_cases hm : m < c * 8
  · obtain ⟨q, i, hi, rfl⟩ : ∃ q i, i < 8 ∧ m = q * 8 + i := ⟨m / 8, m % 8, by omega, by omega⟩
    have hq : q < c := by omega
    rw [pairCells_at _ _ _ _ _ hq hi]
    simp only [List.getElem?_set, List.length_set, pairCells_len]
    by_cases e : q = j
    · subst e
      simp only [if_true]
      have hlt : ∀ d, d < 8 → q * 8 + d < c * 8 := fun d hd => by omega
      rcases (show i = 0 ∨ i = 1 ∨ i = 2 ∨ i = 3 ∨ i = 4 ∨ i = 5 ∨ i = 6 ∨ i = 7 by omega) with rfl | rfl | rfl | rfl | rfl | rfl | rfl | rfl <;> simp [hlt, show q * 8 < c * 8 by omega]
    · simp only [e, if_false]
      rw [if_neg (by omega), if_neg (by omega), if_neg (by omega), if_neg (by omega), if_neg (by omega), if_neg (by omega), if_neg (by omega), if_neg (by omega)]
      exact pairCells_at K X c q i hq hi
  · rw [List.getElem?_eq_none (by simp only [List.length_set, pairCells_len]; omega), List.getElem?_eq_none (by rw [pairCells_len]; omega)]

theorem owns_put {w : World} {base n g cap j : Nat} {K X : Nat → V} (h : w.ownsRow base 75 8 (.slice (some ⟨g, 0, none⟩) n cap) n (pairCells K X n)) (hj : j < n) (k x : V) :
    ((((((((w.setCell ⟨g, j * 8, none⟩ (.int .i64 k.k)).setCell ⟨g, j * 8 + 1, none⟩ (.int .i64 k.n)).setCell ⟨g, j * 8 + 2, none⟩ (.string k.s)).setCell ⟨g, j * 8 + 3, none⟩ (.int .i64 k.a)).setCell ⟨g, j * 8 + 4, none⟩ (.int .i64 x.k)).setCell ⟨g, j * 8 + 5, none⟩ (.int .i64 x.n)).setCell ⟨g, j * 8 + 6, none⟩ (.string x.s)).setCell ⟨g, j * 8 + 7, none⟩ (.int .i64 x.a)).ownsRow base 75 8 (.slice (some ⟨g, 0, none⟩) n cap) n (pairCells (fun i => if i = j then k else K i) (fun i => if i = j then x else X i) n) := by
  rw [← pairCells_put hj]
  exact owns_set (owns_set (owns_set (owns_set (owns_set (owns_set (owns_set (owns_set h _ _) _ _) _ _) _ _) _ _) _ _) _ _) _ _

/-- Where pairs stand, by their places. -/
abbrev byI (K : Nat → V) (ms : List Nat) (i : Nat) : V := K (ms.getD i 0)

theorem getD_swap {A B : List Nat} {x y : Nat} (i : Nat) (K : Nat → V) : (if i = A.length + 1 then K y else if i = A.length then K x else byI K (A ++ y :: x :: B) i) = byI K (A ++ x :: y :: B) i := by
  unfold byI
  simp only [List.getD_eq_getElem?_getD]
  by_cases h1 : i = A.length + 1
  · subst h1
    rw [if_pos rfl, List.getElem?_append_right (by omega)]
    simp
  · rw [if_neg h1]
    by_cases h2 : i = A.length
    · subst h2
      rw [if_pos rfl, List.getElem?_append_right (by omega)]
      simp
    · rw [if_neg h2]
      by_cases h3 : i < A.length
      · rw [List.getElem?_append_left h3, List.getElem?_append_left h3]
      · rw [List.getElem?_append_right (by omega), List.getElem?_append_right (by omega)]
        obtain ⟨d, hd⟩ : ∃ d, i - A.length = d + 2 := ⟨i - A.length - 2, by omega⟩
        rw [hd]
        simp

theorem only8 {w : World} {g a0 a1 a2 a3 a4 a5 a6 a7 : Nat} {v0 v1 v2 v3 v4 v5 v6 v7 : Value} : Only (fun k => k = g) w ((((((((w.setCell ⟨g, a0, none⟩ v0).setCell ⟨g, a1, none⟩ v1).setCell ⟨g, a2, none⟩ v2).setCell ⟨g, a3, none⟩ v3).setCell ⟨g, a4, none⟩ v4).setCell ⟨g, a5, none⟩ v5).setCell ⟨g, a6, none⟩ v6).setCell ⟨g, a7, none⟩ v7) :=
  ((((((((Only.refl (fun k => k = g) w).set (p := ⟨g, a0, none⟩) rfl v0).set (p := ⟨g, a1, none⟩) rfl v1).set (p := ⟨g, a2, none⟩) rfl v2).set (p := ⟨g, a3, none⟩) rfl v3).set (p := ⟨g, a4, none⟩) rfl v4).set (p := ⟨g, a5, none⟩) rfl v5).set (p := ⟨g, a6, none⟩) rfl v6).set (p := ⟨g, a7, none⟩) rfl v7

end Go.Proofs.Ytgflalfiopnmnaa

namespace Go.Proofs.Ytgflalfiopnmnaa
open Go.RowKit Vl Go.Sort Go.Shelf

/-- A key. -/
abbrev KV := { v : V // isK v = true }
instance : Inhabited KV := ⟨⟨⟨2, 0, ⟨#[]⟩, 0⟩, by decide +kernel⟩⟩
def encK (x : KV) : List Value := [.int .i64 x.1.k, .int .i64 x.1.n, .string x.1.s, .int .i64 x.1.a]

theorem ltK (x y : KV) : ltOf (fun x y : KV => ko x.1 y.1) x y = less x.1 y.1 := by
  unfold ltOf ko
  simp only [x.2, y.2, Bool.and_self, if_true]
  cases h : less x.1 y.1
  · cases less y.1 x.1 <;> simp
  · simp
theorem less_irrefl (a : V) : less a a = false := by
  cases h : less a a
  · rfl
  · have := less_asymm h; rw [h] at this; cases this
theorem swoK : SWO (ltOf fun x y : KV => ko x.1 y.1) where
  irrefl x := by rw [ltK]; exact less_irrefl _
  trans x y z h1 h2 := by
    rw [ltK] at *
    cases h : less x.1 z.1
    · have := le_trans (less_asymm h2) h
      rw [this] at h1
      cases h1
    · rfl
  ntrans x y z h1 h2 := by
    rw [ltK] at *
    exact le_trans h2 h1

theorem perm_map {α β : Type} {f : α → β} {l k : List β} (h : l.Perm k) : ∀ ms : List α, k = ms.map f → ∃ ls : List α, ls.Perm ms ∧ l = ls.map f := by
  induction h with
  | nil => intro ms e; cases ms with
    | nil => exact ⟨[], List.Perm.refl _, rfl⟩
    | cons => simp at e
  | cons x _ ih => intro ms e; cases ms with
    | nil => simp at e
    | cons m ms =>
      simp only [List.map_cons, List.cons.injEq] at e
      obtain ⟨ls, h1, h2⟩ := ih ms e.2
      exact ⟨m :: ls, h1.cons m, by rw [h2, e.1]; rfl⟩
  | swap x y l => intro ms e; match ms, e with
    | [], e => simp at e
    | [_], e => simp at e
    | a :: b :: ms, e =>
      simp only [List.map_cons, List.cons.injEq] at e
      obtain ⟨e1, e2, e3⟩ := e
      exact ⟨b :: a :: ms, List.Perm.swap _ _ _, by rw [e1, e2, e3]; rfl⟩
  | trans _ _ ih1 ih2 => intro ms e
                         obtain ⟨ls, h1, h2⟩ := ih2 ms e
                         obtain ⟨ls', h3, h4⟩ := ih1 ls h2
                         exact ⟨ls', h3.trans h1, h4⟩

theorem keyCells_len (K : Nat → V) (L : Nat) : (keyCells (keys K L)).length = L * 4 := by
  induction L with
  | zero => rfl
  | succ L ih => rw [keys_succ]; simp only [keyCells, List.flatMap_append, List.length_append] at ih ⊢; rw [ih]; simp; omega
theorem keyCells_at (K : Nat → V) : ∀ (L j i : Nat), j < L → i < 4 → (keyCells (keys K L))[j * 4 + i]? = [Value.int .i64 (K j).k, .int .i64 (K j).n, .string (K j).s, .int .i64 (K j).a][i]? := by
  intro L
  induction L with
  | zero => intro j i hj; omega
  | succ L ih =>
    intro j i hj hi
    rw [keys_succ]
    have e : keyCells (keys K L ++ [K L]) = keyCells (keys K L) ++ [.int .i64 (K L).k, .int .i64 (K L).n, .string (K L).s, .int .i64 (K L).a] := by simp [keyCells]
    rw [e]
    by_cases e : j = L
    · subst e
      rw [List.getElem?_append_right (by rw [keyCells_len]; omega), keyCells_len, show j * 4 + i - j * 4 = i by omega]
    · rw [List.getElem?_append_left (by rw [keyCells_len]; omega)]
      exact ih j i (by omega) hi

/-- The keys of a row, as keys. -/
noncomputable def kvOf (K : Nat → V) (c : Nat) : KV := if h : isK (K c) = true then ⟨K c, h⟩ else default
theorem kvOf_val {K : Nat → V} {c : Nat} (h : isK (K c) = true) : (kvOf K c).1 = K c := by unfold kvOf; rw [dif_pos h]
noncomputable def kvs (K : Nat → V) (L : Nat) : Array KV := ((List.range L).map (kvOf K)).toArray
theorem kvs_size (K : Nat → V) (L : Nat) : (kvs K L).size = L := by simp [kvs]
theorem kvs_at (K : Nat → V) (L c : Nat) (h : c < L) : (kvs K L)[c]! = kvOf K c := by
  rw [getElem!_pos _ c (by rw [kvs_size]; exact h)]
  simp [kvs]

theorem flat_at {d : Array KV} {j i : Nat} (hj : j < d.size) (hi : i < 4) : (flatK encK 4 d)[j * 4 + i]! = (encK d[j]!)[i]! := by
  rw [get_flatK _ _ _ _ (by omega), show (j * 4 + i) / 4 = j by omega, show (j * 4 + i) % 4 = i by omega]

theorem encK_at (x : KV) {i : Nat} (hi : i < 4) : [Value.int .i64 x.1.k, .int .i64 x.1.n, .string x.1.s, .int .i64 x.1.a][i]? = some (encK x)[i]! := by
  rcases (show i = 0 ∨ i = 1 ∨ i = 2 ∨ i = 3 by omega) with rfl | rfl | rfl | rfl <;> rfl

theorem holds_keys {w : World} {base L g cap : Nat} {K : Nat → V} (hK : ∀ c, c < L → isK (K c) = true) (h : w.ownsRow base 24 4 (.slice (some ⟨g, 0, none⟩) L cap) L (keyCells (keys K L))) : HoldsK encK 4 w g 0 (kvs K L) := by
  intro t ht
  rw [size_flatK, kvs_size] at ht
  obtain ⟨j, i, hi, rfl⟩ : ∃ j i, i < 4 ∧ t = j * 4 + i := ⟨t / 4, t % 4, by omega, by omega⟩
  have hj : j < L := by omega
  have e := keyCells_at K L j i hj hi
  have hv := kvOf_val (hK j hj)
  rw [← hv, encK_at _ hi] at e
  obtain ⟨g', cap', hs, hc⟩ := owns_cell h e
  cases hs
  rw [Nat.zero_add]
  refine ⟨?_, ?_⟩
  · rw [hc, flat_at (by rw [kvs_size]; exact hj) hi, kvs_at K L j hj]
    rfl
  · rcases h.2 with ⟨hv, _⟩ | ⟨g', cap', cur, hv, _, hh, _⟩
    · cases hv
    · cases hv
      simp [World.frozen?, hh]

/-- What the sort leaves of a row of keys. -/
theorem sorted_row {w : World} {base L g cap n : Nat} {K : Nat → V} {d' : Array KV} {os : Array Obj} (hK : ∀ c, c < L → isK (K c) = true) (h : w.ownsRow base 24 4 (.slice (some ⟨g, 0, none⟩) L cap) L (keyCells (keys K L)))
    (hp : PermIn 0 L (kvs K L) d') (hs : SortedIn (ltOf fun x y : KV => ko x.1 y.1) 0 L d') :
    ∃ ls, SortI K L ls ∧ (sortWorldK encK 4 w g 0 n d' os).ownsRow base 24 4 (.slice (some ⟨g, 0, none⟩) L cap) L (keyCells (keys (byI K ls) L)) ∧ Only (fun k => k = g) w (sortWorldK encK 4 w g 0 n d' os) := by
  have hsz : d'.size = L := by rw [hp.1, kvs_size]
  have hperm : d'.toList.Perm ((List.range L).map (kvOf K)) := by
    have := hp.2.2
    rw [show d'.extract 0 L = d' by apply Array.ext_getElem?; intro i; rw [Array.getElem?_extract]; by_cases hi : i < L <;> simp [hi, hsz]] at this
    rw [show (kvs K L).extract 0 L = kvs K L by apply Array.ext_getElem?; intro i; rw [Array.getElem?_extract]; by_cases hi : i < L <;> simp [hi, kvs_size]] at this
    simpa [kvs] using this
  obtain ⟨ls, hls, hd⟩ := perm_map hperm (List.range L) rfl
  have hlen : ls.length = L := by rw [hls.length_eq]; simp
  have hat : ∀ i, i < L → d'[i]! = kvOf K (ls.getD i 0) := fun i hi => by
    rw [getElem!_pos _ i (by omega), ← Array.getElem_toList]
    simp only [hd]
    rw [List.getElem_map, List.getD_eq_getElem?_getD, List.getElem?_eq_getElem (by omega)]
    rfl
  have hlt : ∀ i, i < L → ls.getD i 0 < L := fun i hi => by
    rw [List.getD_eq_getElem?_getD, List.getElem?_eq_getElem (by omega)]
    exact List.mem_range.1 (hls.subset (List.getElem_mem _))
  refine ⟨ls, ⟨hls, ?_⟩, ?_, ?_⟩
  · unfold SortW
    rw [List.pairwise_iff_getElem]
    intro i j hi hj hij
    have := hs i j (Nat.zero_le _) hij (by omega)
    rw [ltK, hat i (by omega), hat j (by omega)] at this
    rw [kvOf_val (hK _ (hlt j (by omega))), kvOf_val (hK _ (hlt i (by omega)))] at this
    simpa [List.getD_eq_getElem?_getD, hi, hj] using this
  · refine ⟨by rw [keyCells_len], Or.inr ?_⟩
    rcases h.2 with ⟨hv, _⟩ | ⟨g', cap', cur, hv, hge, hh, hl, hm, hs', ht⟩
    · cases hv
    · cases hv
      have hgl := blk_lt hh
      refine ⟨g, cap, putCells id 0 (flatK encK 4 d') cur, rfl, hge, ?_, hl, hm, by simp [putCells, hs'], ?_⟩
      · unfold sortWorldK grow putRowK putRow mapBlock
        simp only
        rw [Array.getElem?_append_left (by simp [Sort.ahead]; exact hgl)]
        simp [Array.getElem?_modify, Sort.ahead, hh, onCells]
      · apply List.ext_getElem?
        intro t
        by_cases ht' : t < L * 4
        · obtain ⟨j, i, hi, rfl⟩ : ∃ j i, i < 4 ∧ t = j * 4 + i := ⟨t / 4, t % 4, by omega, by omega⟩
          have hj : j < L := by omega
          have e := keyCells_at (byI K ls) L j i hj hi
          unfold byI at e
          rw [← kvOf_val (hK _ (hlt j hj)), encK_at _ hi] at e
          rw [List.getElem?_take, if_pos ht']
          have hcl : j * 4 + i < cur.size := by rw [hs']; have : L * 4 ≤ cap * 4 := Nat.mul_le_mul_right 4 hl; omega
          have e2 : (putCells id 0 (flatK encK 4 d') cur).toList[j * 4 + i]? = some (flatK encK 4 d')[j * 4 + i]! := by
            simp [putCells, hcl, hsz]
            intro hx
            omega
          rw [e2, flat_at (by omega) hi, hat j hj]
          exact e.symm
        · rw [List.getElem?_eq_none (by simp; omega), List.getElem?_eq_none (by rw [keyCells_len]; omega)]
  · refine ⟨rfl, rfl, rfl, ?_, fun k hk hne => ?_⟩
    · unfold sortWorldK grow putRowK putRow mapBlock
      simp [Sort.ahead]
    · unfold sortWorldK grow putRowK putRow mapBlock
      simp only
      rw [Array.getElem?_append_left (by simp [Sort.ahead]; exact hk), Array.getElem?_modify, if_neg (fun e => hne e.symm)]
      rfl

end Go.Proofs.Ytgflalfiopnmnaa

namespace Go.Proofs.Ytgflalfiopnmnaa
open Go.RowKit Vl Go.Sort Go.Shelf

set_option maxHeartbeats 1000000 in
/-- The sort of a row of keys. -/
theorem sort_some (base L g cap : Nat) (K : Nat → V) (w : World) (hL : L ≤ 1000) (hK : ∀ c, c < L → isK (K c) = true) (hO : w.ownsRow base 24 4 (.slice (some ⟨g, 0, none⟩) L cap) L (keyCells (keys K L))) :
    Calls Try.prog 72 #[.slice (some ⟨g, 0, none⟩) L cap, .func (.func 25) #[] #[]] w fun e w' => e = .returned (.tuple #[]) ∧ ∃ ls, SortI K L ls ∧ w'.ownsRow base 24 4 (.slice (some ⟨g, 0, none⟩) L cap) L (keyCells (keys (byI K ls) L)) ∧ Only (fun k => k = g) w w' := by
  have eg : ∀ args w, (callFunc 25 args).run Try.prog w = .ok (.enter 25 args) w := enters_of Try.func25 (by kernel_rfl) rfl
  have hgl : g < w.heap.size := by
    obtain ⟨_, _, _, h⟩ := owns_form hO
    exact (h g rfl).2
  have hcon := AnyQ.slices_SortFunc Try.sortVal 4 (fun w => by kernel_rfl) (fun w => by kernel_rfl) encK (fun _ => rfl) (fun x v hv => by simp [encK] at hv; rcases hv with rfl | rfl | rfl | rfl <;> rfl) (fun x y => ko x.1 y.1) swoK 25 #[] g 0 cap (kvs K L) w eg (fun m os dk _ x y => Dr.implKo_grows x.1 y.1 _) (holds_keys hK hO) hgl (by rw [kvs_size]; omega)
  rw [kvs_size] at hcon
  refine Calls.mono hcon ?_
  rintro e w' ⟨he, d', n, os, hp, hs, rfl⟩
  exact ⟨he, sorted_row hK hO hp hs⟩

theorem insert_none (f : Value) (w : World) : Calls Try.prog 108 #[.slice none 0 0, .int .i64 0, .int .i64 0, f] w fun e w' => e = .returned (.tuple #[]) ∧ w' = w := by
  go_enter Try.func108, Try.ntmps108
  go_wp2
  go_loopw [8] (fun k wr => k = .int .i64 1 ∧ wr = w) (fun _ _ => 0)
  case atStart => exact ⟨rfl, rfl⟩
  case round =>
    obtain ⟨rfl, rfl⟩ := hrel
    go_wp2
    go_end0
    exact ⟨rfl, rfl⟩

set_option maxHeartbeats 1000000 in
set_option maxRecDepth 100000 in
theorem pdq_none (f : Value) (l : Int) (w : World) : Calls Try.prog 95 #[.slice none 0 0, .int .i64 0, .int .i64 0, .int .i64 l, f] w fun e w' => e = .returned (.tuple #[]) ∧ w' = w := by
  go_enter Try.func95, Try.ntmps95
  go_wp2
  go_loopw [1, 2] (fun a b wr => a = .int .i64 0 ∧ b = .int .i64 0 ∧ wr = w) (fun _ _ _ => 0)
  case atStart => exact ⟨rfl, rfl, rfl⟩
  case round =>
    obtain ⟨rfl, rfl, rfl⟩ := hrel
    go_wp2_with fail
    refine (insert_none f wr).mono ?_
    rintro e w' ⟨rfl, rfl⟩
    go_wp2
    refine bodyPost_ret (results_none rfl _ _ _) rfl ?_
    exact ⟨rfl, rfl⟩

theorem sort_none (f : Value) (w : World) : Calls Try.prog 72 #[.slice none 0 0, f] w fun e w' => e = .returned (.tuple #[]) ∧ w' = w := by
  have hl : Calls Try.prog 96 #[.int .u64 0] w fun e w' => e = .returned (.int .i64 (Lib.bitLen (0 : Int).toNat : Nat)) ∧ w' = w := Any.bits_Len (SlLaysF0.n15.bits (P := Try.prog) (ρ := Try.sortVal_ren) { Try.sortVal with }) 0 w (by omega) (by omega)
  have wr0 : IntKind.u64.wrap (0 : Int) = 0 := by simp [IntKind.wrap, IntKind.bits, IntKind.signed]
  obtain ⟨l, hl'⟩ : ∃ l : Int, ((Lib.bitLen (0 : Int).toNat : Nat) : Int) = l := ⟨_, rfl⟩
  rw [hl'] at hl
  clear hl'
  go_enter Try.func72, Try.ntmps72
  go_wp2_with fail
  refine hl.mono ?_
  rintro e w' ⟨rfl, rfl⟩
  go_wp2_with fail
  refine (pdq_none f l w').mono ?_
  rintro e w2 ⟨rfl, rfl⟩
  go_wp2
  go_end0
  exact ⟨rfl, rfl⟩

end Go.Proofs.Ytgflalfiopnmnaa
