/-
  More kinds of operations of a region that draws its order: sums, products and the lesser of two numbers, and a part of a slice.
-/
import Derived.Test.YtfkkpbfoipfekaaDoorReg9
namespace Go.Proofs.YtfkkpbfoipfekaaDoor
open Go.RowKit
theorem min_run (a : Act) (o : Oper) (x y : Operand) (hop : o.op = .call { callee := .builtin .min, args := #[x, y], argTypes := #[3, 3] }) (m n : Int) (e : a.eval x = .int .i64 m) (e' : a.eval y = .int .i64 n) (w : World) : (execOp a.eval o).run Tryd.prog w = .ok (.value (.int .i64 (min m n))) w := by
  unfold execOp
  simp only [hop, resolve, List.map_toArray, List.map_cons, List.map_nil, e, e']
  simp [go_sem]
  split <;> omega
theorem mul_run (m n : Int) (h : IntKind.i64.wrap (m * n) = m * n) (w : World) : (binOp .mul 3 (.int .i64 m) (.int .i64 n)).run Tryd.prog w = .ok (.int .i64 (m * n)) w := by
  simp [go_sem, h]
theorem add_run (m n : Int) (h : IntKind.i64.wrap (m + n) = m + n) (w : World) : (binOp .add 3 (.int .i64 m) (.int .i64 n)).run Tryd.prog w = .ok (.int .i64 (m + n)) w := by
  simp [go_sem, h]
theorem sub_run (m n : Int) (h : IntKind.i64.wrap (m - n) = m - n) (w : World) : (binOp .sub 3 (.int .i64 m) (.int .i64 n)).run Tryd.prog w = .ok (.int .i64 (m - n)) w := by
  simp [go_sem, h]
section
variable {ops : Array Oper} {a0 : Act} {k : Nat → Kd} {w0 : World} {Q : Exit → Act → World → Prop} {o : Oper} {i : Nat}
theorem ob_arith (A : At ops a0 k i o) (op : BinOp) (x y : Operand) (m n r : Int) (hop : o.op = .binOp op 3 x y 3)
    (hx : ∀ listed a w, Rg ops a0 (Rw w0) (fun i => (k i).is) listed a w → (∀ e ∈ o.after, Region.binds .any e = true → listed.getD e.on false = true) → a.eval x = .int .i64 m)
    (hy : ∀ listed a w, Rg ops a0 (Rw w0) (fun i => (k i).is) listed a w → (∀ e ∈ o.after, Region.binds .any e = true → listed.getD e.on false = true) → a.eval y = .int .i64 n)
    (hgd : ∀ w, (eqGuard op 3 x y (.int .i64 m) (.int .i64 n)).run Tryd.prog w = .ok () w) (hrun : ∀ w, (binOp op 3 (.int .i64 m) (.int .i64 n)).run Tryd.prog w = .ok (.int .i64 r) w) (hki : k i = .val (.int .i64 r)) : Obl Tryd.prog ops Q a0 (Rw w0) (fun i => (k i).is) i o :=
  fun listed a w h hd K hK =>
    o_binOp _ _ _ _ _ hop (hx listed a w h hd) (hy listed a w h hd) (hgd w) (hrun w) (A.hg.wanted h hd) (hK _ _ (A.fin h (Below.refl _ _) (by rw [hki]; rfl)))
theorem ob_min (A : At ops a0 k i o) (x y : Operand) (m n r : Int) (hop : o.op = .call { callee := .builtin .min, args := #[x, y], argTypes := #[3, 3] })
    (hx : ∀ listed a w, Rg ops a0 (Rw w0) (fun i => (k i).is) listed a w → (∀ e ∈ o.after, Region.binds .any e = true → listed.getD e.on false = true) → a.eval x = .int .i64 m)
    (hy : ∀ listed a w, Rg ops a0 (Rw w0) (fun i => (k i).is) listed a w → (∀ e ∈ o.after, Region.binds .any e = true → listed.getD e.on false = true) → a.eval y = .int .i64 n)
    (hr : min m n = r) (hki : k i = .val (.int .i64 r)) : Obl Tryd.prog ops Q a0 (Rw w0) (fun i => (k i).is) i o :=
  fun listed a w h hd K hK =>
    o_run (A.hg.wanted h hd) (min_run a o x y hop m n (hx listed a w h hd) (hy listed a w h hd) w) (hK _ _ (A.fin h (Below.refl _ _) (by rw [hki, hr]; rfl)))
/-- x[l:h] of bytes. -/
theorem ob_cut (A : At ops a0 k i o) (j j' j2 : Nat) (t t' t2 : Tmp) (s : List Nat) (l h' : Nat) (hop : o.op = .slice 22 (.tmp t) (some (.tmp t')) (some (.tmp t2)) none) (hj : depB o j = true) (ht : dstOf ops j = some t) (hj' : depB o j' = true) (ht' : dstOf ops j' = some t') (hj2 : depB o j2 = true) (ht2 : dstOf ops j2 = some t2)
    (hkj : k j = .bytes s) (hkj' : k j' = .val (.int .i64 (l : Int))) (hkj2 : k j2 = .val (.int .i64 (h' : Int))) (hki : k i = .bytes ((s.drop l).take (h' - l))) (h1 : l ≤ h') (h2 : h' ≤ s.length) : Obl Tryd.prog ops Q a0 (Rw w0) (fun i => (k i).is) i o :=
  fun listed a w h hd K hK => by
    have e1 := h.opd hd hj ht
    have e2 := h.opd hd hj' ht'
    have e3 := h.opd hd hj2 ht2
    rw [hkj] at e1
    rw [hkj'] at e2
    rw [hkj2] at e3
    obtain ⟨hB, A', c, e, hc, hr⟩ := e1
    have e2' : a.eval (.tmp t') = .int .i64 (l : Int) := e2
    have e3' : a.eval (.tmp t2) = .int .i64 (h' : Int) := e3
    refine o_run (w' := w) (v := .slice (if c = l then A' else A'.map (·.add l)) (h' - l) (c - l)) (A.hg.wanted h hd) ?_ (hK _ _ (A.fin h (Below.refl _ _) ?_))
    · unfold execOp
      simp only [hop, e, e2', e3', Option.map_some, Option.map_none, Sem.run_bind, slice_lh A' s.length c l h' h1 (by omega) w, Result.andThen_ok, Sem.run_pure]
    · rw [hki]
      have hl : ((s.drop l).take (h' - l)).length = h' - l := by rw [List.length_take, List.length_drop]; omega
      exact ⟨(hB.drop l).take _, _, c - l, by rw [hl], by rw [hl]; omega, hr.cut hc⟩
end
end Go.Proofs.YtfkkpbfoipfekaaDoor
