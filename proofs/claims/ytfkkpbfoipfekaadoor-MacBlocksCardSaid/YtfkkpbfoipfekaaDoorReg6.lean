/-
  Two more operations of a region that draws its order: a length, and a test of two equal numbers.
-/
import Derived.Test.YtfkkpbfoipfekaaDoorReg5
import Derived.Test.YtfkkpbfoipfekaaDoorBytes
namespace Go.Proofs.YtfkkpbfoipfekaaDoor
open Go.RowKit
theorem len_run (a : Act) (o : Oper) (t : Tmp) (hop : o.op = .call { callee := .builtin .len, args := #[.tmp t], argTypes := #[22] }) (A : Option Addr) (n c : Nat) (e : a.eval (.tmp t) = .slice A n c) (w : World) : (execOp a.eval o).run Tryd.prog w = .ok (.value (.int .i64 (n : Int))) w := by
  unfold execOp
  simp only [hop, resolve, List.map_toArray, List.map_cons, List.map_nil, e]
  simp [go_sem]
theorem Row.form {w : World} {v : Value} {l : List Nat} (h : Row w v l) : ∃ A c, v = .slice A l.length c := by
  obtain ⟨base, h⟩ := h
  obtain ⟨A, c, e, _⟩ := own_form h
  exact ⟨A, c, e⟩
section
variable {ops : Array Oper} {a0 : Act} {k : Nat → Kd} {w0 : World} {Q : Exit → Act → World → Prop} {o : Oper} {i : Nat}
theorem ob_len (A : At ops a0 k i o) (j : Nat) (t : Tmp) (l : List Nat) (hop : o.op = .call { callee := .builtin .len, args := #[.tmp t], argTypes := #[22] }) (hj : depB o j = true) (ht : dstOf ops j = some t) (hkj : k j = .row l) (hki : k i = .val (.int .i64 (l.length : Int))) : Obl Tryd.prog ops Q a0 (Rw w0) (fun i => (k i).is) i o :=
  fun _ _ _ h hd K hK => by
    have h1 := h.opd hd hj ht
    rw [hkj] at h1
    obtain ⟨A', c, e⟩ := Row.form h1
    exact o_run (A.hg.wanted h hd) (len_run _ _ _ hop A' _ c e _) (hK _ _ (A.fin h (Below.refl _ _) (by rw [hki]; rfl)))
theorem eq_int (n : Int) (w : World) : (binOp .eql 3 (.int .i64 n) (.int .i64 n)).run Tryd.prog w = .ok (.bool true) w := by
  simp [go_sem]
theorem guard_int (x y : Operand) (s t : Int) (w : World) : (eqGuard .eql 3 x y (.int .i64 s) (.int .i64 t)).run Tryd.prog w = .ok () w := by
  simp [eqGuard]
theorem ob_eqi (A : At ops a0 k i o) (j : Nat) (t : Tmp) (n : Int) (hop : o.op = .binOp .eql 3 (.tmp t) (.const (.int .i64 n)) 3) (hj : depB o j = true) (ht : dstOf ops j = some t)
    (hkj : k j = .val (.int .i64 n)) (hki : k i = .val (.bool true)) : Obl Tryd.prog ops Q a0 (Rw w0) (fun i => (k i).is) i o :=
  fun listed a w h hd K hK => by
    have h1 := h.opd hd hj ht
    rw [hkj] at h1
    exact o_binOp _ _ _ _ _ hop h1 rfl (guard_int _ _ _ _ _) (eq_int _ _) (A.hg.wanted h hd) (hK _ _ (A.fin h (Below.refl _ _) (by rw [hki]; rfl)))
end
/-- n bytes, the first i of them x, the others zero. -/
def fillc (n x i : Nat) : List Nat := List.replicate i x ++ List.replicate (n - i) 0
theorem fillc_length (n x i : Nat) (h : i ≤ n) : (fillc n x i).length = n := by simp [fillc]; omega
theorem fillc_set (n x i : Nat) (h : i < n) : (fillc n x i).set i x = fillc n x (i + 1) := by
  unfold fillc
  rw [List.set_append_right _ _ (by simp), List.length_replicate, Nat.sub_self]
  obtain ⟨d, hd⟩ : ∃ d, n - i = d + 1 := ⟨n - i - 1, by omega⟩
  rw [hd, List.replicate_succ, List.set_cons_zero, show n - (i + 1) = d by omega, List.replicate_succ', List.append_assoc]
  rfl
theorem fillc_Bs (n x i : Nat) (hx : x < 256) : Sha.Bs (fillc n x i) := fun y hy => by
  unfold fillc at hy
  rcases List.mem_append.1 hy with h | h
  · have := List.eq_of_mem_replicate h; omega
  · have := List.eq_of_mem_replicate h; omega
theorem made_zero (n : Nat) : (madeCells (Value.int IntKind.u8 0).cells (n * 1)).toList = vals .u8 (fillc n 0 0) := by
  rw [Nat.mul_one]
  show (madeCells #[Value.int IntKind.u8 0] n).toList = _
  rw [toList_madeCells_one]
  simp [fillc, vals]
theorem fillc_zero (n x y : Nat) : fillc n x 0 = fillc n y 0 := by simp [fillc]
end Go.Proofs.YtfkkpbfoipfekaaDoor
