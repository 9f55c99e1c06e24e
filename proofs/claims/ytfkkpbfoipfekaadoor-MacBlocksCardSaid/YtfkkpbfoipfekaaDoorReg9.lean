/-
  More kinds of operations of a region that draws its order: error numbers compared, the document's Expand, a slice from its beginning, a choice between two noes, a product.
-/
import Derived.Test.YtfkkpbfoipfekaaDoorM10
import Derived.Test.YtfkkpbfoipfekaaDoorReg8
namespace Go.Proofs.YtfkkpbfoipfekaaDoor
open Go.RowKit
theorem neq_err (n : Int) (w : World) : (binOp .neq 28 (.int .i64 n) (.int .i64 n)).run Tryd.prog w = .ok (.bool false) w := by
  simp [go_sem]
theorem eql_err (n : Int) (w : World) : (binOp .eql 28 (.int .i64 n) (.int .i64 n)).run Tryd.prog w = .ok (.bool true) w := by
  simp [go_sem]
theorem guard_neqerr (x y : Operand) (s t : Int) (w : World) : (eqGuard .neq 28 x y (.int .i64 s) (.int .i64 t)).run Tryd.prog w = .ok () w := by
  simp [eqGuard]
theorem guard_eqlerr (x y : Operand) (s t : Int) (w : World) : (eqGuard .eql 28 x y (.int .i64 s) (.int .i64 t)).run Tryd.prog w = .ok () w := by
  simp [eqGuard]
theorem enter14x (vs : Array Value) (w : World) : (callFunc 14 vs).run Tryd.prog w = .ok (.enter 14 vs) w := by kernel_rfl
section
variable {ops : Array Oper} {a0 : Act} {k : Nat → Kd} {w0 : World} {Q : Exit → Act → World → Prop} {o : Oper} {i : Nat}
theorem ob_neqerr (A : At ops a0 k i o) (j : Nat) (t : Tmp) (n : Int) (hop : o.op = .binOp .neq 28 (.tmp t) (.const (.int .i64 n)) 28) (hj : depB o j = true) (ht : dstOf ops j = some t)
    (hkj : k j = .val (.int .i64 n)) (hki : k i = .val (.bool false)) : Obl Tryd.prog ops Q a0 (Rw w0) (fun i => (k i).is) i o :=
  fun listed a w h hd K hK => by
    have h1 := h.opd hd hj ht
    rw [hkj] at h1
    exact o_binOp _ _ _ _ _ hop h1 rfl (guard_neqerr _ _ _ _ _) (neq_err _ _) (A.hg.wanted h hd) (hK _ _ (A.fin h (Below.refl _ _) (by rw [hki]; rfl)))
theorem ob_eqlerr (A : At ops a0 k i o) (j : Nat) (t : Tmp) (n : Int) (hop : o.op = .binOp .eql 28 (.tmp t) (.const (.int .i64 n)) 28) (hj : depB o j = true) (ht : dstOf ops j = some t)
    (hkj : k j = .val (.int .i64 n)) (hki : k i = .val (.bool true)) : Obl Tryd.prog ops Q a0 (Rw w0) (fun i => (k i).is) i o :=
  fun listed a w h hd K hK => by
    have h1 := h.opd hd hj ht
    rw [hkj] at h1
    exact o_binOp _ _ _ _ _ hop h1 rfl (guard_eqlerr _ _ _ _ _) (eql_err _ _) (A.hg.wanted h hd) (hK _ _ (A.fin h (Below.refl _ _) (by rw [hki]; rfl)))
theorem ob_pickF (A : At ops a0 k i o) (j j' : Nat) (t t' : Tmp) (hop : o.op = .pick (.tmp t) (.const (.bool true)) (.tmp t')) (hj : depB o j = true) (ht : dstOf ops j = some t) (hj' : depB o j' = true) (ht' : dstOf ops j' = some t')
    (hkj : k j = .val (.bool false)) (hkj' : k j' = .val (.bool false)) (hki : k i = .val (.bool false)) : Obl Tryd.prog ops Q a0 (Rw w0) (fun i => (k i).is) i o :=
  fun listed a w h hd K hK => by
    have h1 := h.opd hd hj ht
    have h2 := h.opd hd hj' ht'
    rw [hkj] at h1
    rw [hkj'] at h2
    exact o_pick _ _ _ hop h1 rfl h2 (A.hg.wanted h hd) (hK _ _ (A.fin h (Below.refl _ _) (by rw [hki]; rfl)))
/-- x[:h] of bytes. -/
theorem ob_head (A : At ops a0 k i o) (j j' : Nat) (t t' : Tmp) (l : List Nat) (h' : Nat) (hop : o.op = .slice 22 (.tmp t) none (some (.tmp t')) none) (hj : depB o j = true) (ht : dstOf ops j = some t) (hj' : depB o j' = true) (ht' : dstOf ops j' = some t')
    (hkj : k j = .bytes l) (hkj' : k j' = .val (.int .i64 (h' : Int))) (hki : k i = .bytes (l.take h')) (hle : h' ≤ l.length) : Obl Tryd.prog ops Q a0 (Rw w0) (fun i => (k i).is) i o :=
  fun listed a w h hd K hK => by
    have h1 := h.opd hd hj ht
    have h2 := h.opd hd hj' ht'
    rw [hkj] at h1
    rw [hkj'] at h2
    obtain ⟨hB, A', c, e, hc, hr⟩ := h1
    have h2' : a.eval (.tmp t') = .int .i64 (h' : Int) := h2
    refine o_run (w' := w) (v := .slice A' h' c) (A.hg.wanted h hd) ?_ (hK _ _ (A.fin h (Below.refl _ _) ?_))
    · unfold execOp
      simp only [hop, e, h2', Option.map_some, Option.map_none, Sem.run_bind, slice_to A' l.length c h' (by omega) w, Result.andThen_ok, Sem.run_pure]
    · rw [hki]
      exact ⟨hB.take h', A', c, by rw [List.length_take, Nat.min_eq_left hle], by rw [List.length_take]; omega, hr.head h'⟩
theorem ob_rexpand (A : At ops a0 k i o) (x y z : Operand) (ts : Array TypeId) (key info : List Nat) (N : Nat) (hop : o.op = .call { callee := .value (.func 14), args := #[x, y, z], argTypes := ts })
    (hx : ∀ listed a w, Rg ops a0 (Rw w0) (fun i => (k i).is) listed a w → (∀ e ∈ o.after, Region.binds .any e = true → listed.getD e.on false = true) → ∃ A c, a.eval x = .slice A key.length c ∧ RdB w w.heap.size A key ∧ (A = none → c = 0))
    (hy : ∀ listed a w, Rg ops a0 (Rw w0) (fun i => (k i).is) listed a w → (∀ e ∈ o.after, Region.binds .any e = true → listed.getD e.on false = true) → ∃ A c, a.eval y = .slice A info.length c ∧ RdB w w.heap.size A info ∧ (A = none → c = 0))
    (hz : ∀ listed a w, Rg ops a0 (Rw w0) (fun i => (k i).is) listed a w → (∀ e ∈ o.after, Region.binds .any e = true → listed.getD e.on false = true) → a.eval z = .int .i64 (N : Int))
    (hki : k i = .bytes (spreadTo key info N)) (hb : Sha.Bs key) (hlk : key.length ≤ 400) (hbi : Sha.Bs info) (hli : info.length ≤ 200) (hN : N ≤ 400) : Obl Tryd.prog ops Q a0 (Rw w0) (fun i => (k i).is) i o :=
  fun listed a w h hd K hK => by
    obtain ⟨A', c, e, hr, hn0⟩ := hx listed a w h hd
    obtain ⟨B', d, e', hr', hn1⟩ := hy listed a w h hd
    have e2 := hz listed a w h hd
    refine o_call 14 _ ts hop #[.slice A' key.length c, .slice B' info.length d, .int .i64 (N : Int)] (by simp only [List.map_toArray, List.map_cons, List.map_nil, e, e', e2]) (enter14x _ _) (A.hg.wanted h hd) ((rexpand_any w A' B' c d key info N hN hr hn0 hb hr' hn1 hbi hlk hli).mono ?_)
    rintro e w' ⟨X, cx, rfl, hrd, hcx, hb'⟩
    refine ⟨_, rfl, hK _ _ (A.fin h hb' (by rw [hki]; exact ⟨spreadTo_Bs _ _ _, X, cx, by rw [spreadTo_length], by rw [spreadTo_length]; exact hcx, hrd⟩))⟩
end
end Go.Proofs.YtfkkpbfoipfekaaDoor
