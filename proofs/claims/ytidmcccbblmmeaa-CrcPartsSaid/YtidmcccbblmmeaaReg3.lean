/-
  The kinds of operations of layer 3's regions that draw their order: a list of one part, a part's sum, the xor and the comparison of sums, the beginning of a slice.
-/
import Derived.Test.YtidmcccbblmmeaaReg2
import Derived.Test.YtidmcccbblmmeaaBytes
namespace Go.Proofs.Ytidmcccbblmmeaa
open Go.RowKit
theorem Parts.below {w w' : World} {B : Nat} {A : Option Addr} {ps : List (List Nat)} (h : Parts w B A ps) (hb : Below B w w') (hB : B ≤ w'.heap.size) : Parts w' w'.heap.size A ps := fun i hi => by
  obtain ⟨ad, Ai, ci, e, h1, h2, h3, h4⟩ := h i hi
  exact ⟨ad, Ai, ci, e, by omega, (hb.cell (by rw [block_add]; exact h1)).trans h2, h3, (h4.below hb).more hB⟩
/-- A list that reads as these parts. -/
def partsK (ps : List (List Nat)) : Kind :=
  ⟨fun w v => (∀ p ∈ ps, Crc.Bs p) ∧ ∃ A c, v = .slice A ps.length c ∧ Parts w w.heap.size A ps, fun _ _ _ hb ⟨h1, A, c, e, h⟩ => ⟨h1, A, c, e, h.below hb hb.size⟩⟩
/-- A slice that reads as these bytes. -/
def bytesK (l : List Nat) : Kind :=
  ⟨fun w v => ∃ A c, v = .slice A l.length c ∧ RdB w w.heap.size A l, fun _ _ _ hb ⟨A, c, e, h⟩ => ⟨A, c, e, (h.below hb).more hb.size⟩⟩
theorem build_part (A : Option Addr) (n c : Nat) (w : World) : (Instr.buildSlice 28 1 #[(0, .slice A n c)]).run Try.prog w = .ok (.slice (some ⟨w.heap.size, 0, none⟩) 1 1) (w.alloc (.cells #[.slice A n c] 22)) := by kernel_rfl
theorem enter9 (vs : Array Value) (w : World) : (callFunc 9 vs).run Try.prog w = .ok (.enter 9 vs) w := by kernel_rfl
theorem enter10 (vs : Array Value) (w : World) : (callFunc 10 vs).run Try.prog w = .ok (.enter 10 vs) w := by kernel_rfl
theorem enter13 (vs : Array Value) (w : World) : (callFunc 13 vs).run Try.prog w = .ok (.enter 13 vs) w := by kernel_rfl
theorem enter14 (vs : Array Value) (w : World) : (callFunc 14 vs).run Try.prog w = .ok (.enter 14 vs) w := by kernel_rfl
theorem slice_to (A : Option Addr) (n c h : Nat) (h2 : h ≤ c) (w : World) :
    (Instr.sliceAt 22 (.slice A n c) none (some (.int .i64 (h : Int))) none).run Try.prog w = .ok (.slice A h c) w := by
  have hs : (sizeOf (Try.prog.elem 22)).run Try.prog w = .ok 1 w := by kernel_rfl
  have hu : Try.prog.underlying 22 = some (.slice (Try.prog.elem 22)) := by kernel_rfl
  rw [run_sliceAt_slice _ 22 _ _ _ _ hu, run_slice_h (P := Try.prog) w 22 A n c hu .i64 (h : Int) (by omega) (by omega), hs]
  simp only [Result.andThen, sliced, Int.toNat_natCast, Nat.mul_one, Nat.sub_zero]
  cases A <;> simp [Addr.add]
theorem slice_to28 (A : Option Addr) (n c h : Nat) (h2 : h ≤ c) (w : World) :
    (Instr.sliceAt 28 (.slice A n c) none (some (.int .i64 (h : Int))) none).run Try.prog w = .ok (.slice A h c) w := by
  have hs : (sizeOf (Try.prog.elem 28)).run Try.prog w = .ok 1 w := by kernel_rfl
  have hu : Try.prog.underlying 28 = some (.slice (Try.prog.elem 28)) := by kernel_rfl
  rw [run_sliceAt_slice _ 28 _ _ _ _ hu, run_slice_h (P := Try.prog) w 28 A n c hu .i64 (h : Int) (by omega) (by omega), hs]
  simp only [Result.andThen, sliced, Int.toNat_natCast, Nat.mul_one, Nat.sub_zero]
  cases A <;> simp [Addr.add]
theorem RdB.head {w : World} {B : Nat} {A : Option Addr} {l : List Nat} (h : RdB w B A l) (m : Nat) : RdB w B A (l.take m) := fun hl => by
  simp only [List.length_take] at hl
  obtain ⟨ad, e, h1, h3⟩ := h (by omega)
  refine ⟨ad, e, h1, fun j u hu => h3 j u ?_⟩
  rw [← vals_take, List.getElem?_take] at hu
  split at hu
  · exact hu
  · cases hu
theorem xor_run {a b : Nat} (ha : a < 4294967296) (hb : b < 4294967296) (w : World) : (binOp .xor 24 (.int .u32 (a : Int)) (.int .u32 (b : Int))).run Try.prog w = .ok (.int .u32 ((a ^^^ b : Nat) : Int)) w := by
  have := u32_xor_nat a b ha hb
  simp [go_sem, this]
theorem guard_any (op : BinOp) (t : TypeId) (x y : Operand) (k k' : IntKind) (s r : Int) (w : World) : (eqGuard op t x y (.int k s) (.int k' r)).run Try.prog w = .ok () w := by
  cases op <;> simp [eqGuard]
theorem eql_run (n : Int) (w : World) : (binOp .eql 24 (.int .u32 n) (.int .u32 n)).run Try.prog w = .ok (.bool true) w := by
  simp [go_sem]
theorem neq_run (n : Int) (w : World) : (binOp .neq 3 (.int .i64 n) (.int .i64 n)).run Try.prog w = .ok (.bool false) w := by
  simp [go_sem]
theorem add_run (m n : Int) (h : IntKind.i64.wrap (m + n) = m + n) (w : World) : (binOp .add 3 (.int .i64 m) (.int .i64 n)).run Try.prog w = .ok (.int .i64 (m + n)) w := by
  simp [go_sem, h]
theorem conv_run {a : Nat} (ha : a < 4294967296) (w : World) : (convert 24 3 (.int .u32 (a : Int))).run Try.prog w = .ok (.int .i64 (a : Int)) w := by
  have : IntKind.i64.wrap (a : Int) = (a : Int) := by rw [IntKind.wrap_i64]; omega
  simp [go_sem, this]
section
variable {ops : Array Oper} {a0 : Act} {k : Nat → Kind} {w0 : World} {Q : Exit → Act → World → Prop} {o : Oper} {i : Nat}
theorem ob_part (A : At ops a0 k i o) (x : Operand) (hop : o.op = .buildSlice 28 1 #[(0, x)]) (X : Option Addr) (n c : Nat) (l : List Nat) (hx : Ev ops a0 k w0 o x (Kind.val (.slice X n c)).is) (hn : l.length = n) (hc : l.length ≤ c) (hb : Crc.Bs l)
    (hr : ∀ w, Rw w0 w → RdB w w.heap.size X l) (hki : k i = partsK [l]) : Obl Try.prog ops Q a0 (Rw w0) (fun i => (k i).is) i o :=
  ob_build A 28 x hop _ (fun w => w.alloc (.cells #[.slice X n c] 22)) hx (fun w => .slice (some ⟨w.heap.size, 0, none⟩) 1 1) (build_part X n c) (fun w => (Below.refl _ _).alloc (Nat.le_refl _) _) (fun w h => by
    rw [hki]
    exact ⟨fun p hp => by rw [List.mem_singleton] at hp; rw [hp]; exact hb, _, 1, rfl, parts_one hn (hr w h) hc⟩)
theorem ob_sum1 (A : At ops a0 k i o) (x : Operand) (ts : Array TypeId) (hop : o.op = .call { callee := .value (.func 9), args := #[x], argTypes := ts }) (l : List Nat) (hx : Ev ops a0 k w0 o x (partsK [l]).is) (hm : l.length ≤ 9223372036854775807)
    (hki : k i = .val (.int .u32 (Crc.sum l : Nat))) : Obl Try.prog ops Q a0 (Rw w0) (fun i => (k i).is) i o :=
  ob_call1 A 9 x ts hop _ hx (fun _ _ => enter9 _ _) (fun v w _ ⟨h1, A', c, e, h2⟩ => by
    subst e
    refine (sum_any w A' c [l] h2 h1 (by simp) (by rw [flat1]; exact hm)).mono ?_
    rintro e w' ⟨rfl, hb⟩
    exact ⟨_, rfl, by rw [hki, flat1]; rfl, hb⟩)
end
end Go.Proofs.Ytidmcccbblmmeaa
