/-
  Single operations of a region that draws its order, by their runs; and rows of bytes that later steps keep.
-/
import Derived.Test.YtfkkpbfoipfekaaDoorReg
import Derived.Test.YtfkkpbfoipfekaaDoorStr
namespace Go.Proofs.YtfkkpbfoipfekaaDoor
open Go.RowKit
section
variable {P : Program} {ops : Array Oper} {K : Act → World → Prop} {Q : Exit → Act → World → Prop} {E : Prop} {a : Act} {w w' : World} {o : Oper}
theorem o_run {v : Value} (hw : Region.wanted o (yielded ops a.tmps) = true) (hrun : (execOp a.eval o).run P w = .ok (.value v) w') (h : K (a.put o.dst v) w') :
    if Region.wanted o (yielded ops a.tmps) = true then Oper.wp P o a w K Q else E := by
  rw [if_pos hw]; unfold Oper.wp; rw [hrun]; exact h
theorem o_move (x : Operand) (ho : o.op = .move x) {v : Value} (hx : a.eval x = v) (hw : Region.wanted o (yielded ops a.tmps) = true) (h : K (a.put o.dst v) w) :
    if Region.wanted o (yielded ops a.tmps) = true then Oper.wp P o a w K Q else E :=
  o_run hw (by unfold execOp; simp only [ho, hx]; rfl) h
theorem o_assign (x : Operand) (ho : o.op = .assign x) {v : Value} (hx : a.eval x = v) (hw : Region.wanted o (yielded ops a.tmps) = true) (h : K (a.put o.dst v) w) :
    if Region.wanted o (yielded ops a.tmps) = true then Oper.wp P o a w K Q else E :=
  o_run hw (by unfold execOp; simp only [ho, hx]; rfl) h
theorem o_conv (s d : TypeId) (x : Operand) (ho : o.op = .convert s d x) {u v : Value} (hx : a.eval x = u) (hrun : (convert s d u).run P w = .ok v w') (hw : Region.wanted o (yielded ops a.tmps) = true) (h : K (a.put o.dst v) w') :
    if Region.wanted o (yielded ops a.tmps) = true then Oper.wp P o a w K Q else E :=
  o_run hw (by unfold execOp; simp only [ho, hx, Sem.run_bind, hrun, Result.andThen_ok, Sem.run_pure]) h
theorem o_buildSlice1 (t : TypeId) (x : Operand) (ho : o.op = .buildSlice t 1 #[(0, x)]) {u v : Value} (hx : a.eval x = u) (hrun : (Instr.buildSlice t 1 #[(0, u)]).run P w = .ok v w') (hw : Region.wanted o (yielded ops a.tmps) = true) (h : K (a.put o.dst v) w') :
    if Region.wanted o (yielded ops a.tmps) = true then Oper.wp P o a w K Q else E :=
  o_run hw (by unfold execOp; simp only [ho, List.map_toArray, List.map_cons, List.map_nil, hx, Sem.run_bind, hrun, Result.andThen_ok, Sem.run_pure]) h
theorem o_binOp (op : BinOp) (t t2 : TypeId) (x y : Operand) (ho : o.op = .binOp op t x y t2) {u u' v : Value} (hx : a.eval x = u) (hy : a.eval y = u') (hg : (eqGuard op t x y u u').run P w = .ok () w) (hrun : (binOp op t u u').run P w = .ok v w')
    (hw : Region.wanted o (yielded ops a.tmps) = true) (h : K (a.put o.dst v) w') : if Region.wanted o (yielded ops a.tmps) = true then Oper.wp P o a w K Q else E :=
  o_run hw (by unfold execOp; simp only [ho, hx, hy, Sem.run_bind, hg, hrun, Result.andThen_ok, Sem.run_pure]) h
theorem o_pick (c x y : Operand) (ho : o.op = .pick c x y) {b : Bool} {u u' : Value} (hc : a.eval c = .bool b) (hx : a.eval x = u) (hy : a.eval y = u') (hw : Region.wanted o (yielded ops a.tmps) = true) (h : K (a.put o.dst (if b then u else u')) w) :
    if Region.wanted o (yielded ops a.tmps) = true then Oper.wp P o a w K Q else E :=
  o_run hw (by unfold execOp; simp only [ho, hc, hx, hy]; rfl) h
theorem o_call (f : FuncId) (args : Array Operand) (ts : Array TypeId) (ho : o.op = .call { callee := .value (.func f), args := args, argTypes := ts }) (vs : Array Value) (hv : args.map a.eval = vs)
    (hcf : (callFunc f vs).run P w = .ok (.enter f vs) w) (hw : Region.wanted o (yielded ops a.tmps) = true) (hc : Calls P f vs w fun e w' => ∃ r, e = .returned r ∧ K (a.put o.dst r) w') :
    if Region.wanted o (yielded ops a.tmps) = true then Oper.wp P o a w K Q else E := by
  rw [if_pos hw]
  unfold Oper.wp execOp
  have he : a.eval (Operand.func f) = Value.func (Fn.func f) #[] #[] := rfl
  have hr : (resolve a.eval { callee := .value (.func f), args := args, argTypes := ts } o.type).run P w = .ok { target := .fn (.func f) #[], args := vs } w := by
    simp only [resolve, he, Deferred.ofValue, hv, Array.empty_append]
    rfl
  simp only [ho, Sem.run_bind, hr, Result.andThen_ok, invoke, hcf, Array.append_empty]
  refine hc.mono ?_
  rintro e w' ⟨r, rfl, hk⟩
  exact hk
theorem eval_tmp (a : Act) (t : Tmp) : a.eval (.tmp t) = a.tmps.getD t undef := by simp [Act.eval]
theorem yielded_of {i : Nat} {t : Tmp} {b : Bool} (hd : dstOf ops i = some t) (ht : t < a.tmps.size) (hb : a.tmps.getD t undef = .bool b) : yielded ops a.tmps i = some b := by
  unfold yielded
  unfold dstOf at hd
  rw [hd]
  simp only [Option.bind_some, Array.getElem?_eq_getElem ht]
  rw [Array.getD_eq_getD_getElem?, Array.getElem?_eq_getElem ht, Option.getD_some] at hb
  rw [hb]
end
theorem own_below {w w' : World} {base : Nat} {e : TypeId} {size n : Nat} {v : Value} {xs : List Value} (h : w.ownsRow base e size v n xs) (hb : Below w.heap.size w w') : w'.ownsRow base e size v n xs := by
  obtain ⟨h1, h2⟩ := h
  refine ⟨h1, ?_⟩
  rcases h2 with h2 | ⟨g, cap, cur, hv, hg, hh, hr⟩
  · exact .inl h2
  · exact .inr ⟨g, cap, cur, hv, hg, (hb.block g (show Blk w g e cur from hh).lt).trans hh, hr⟩
/-- A value is a row of its own of these bytes. -/
def Row (w : World) (v : Value) (l : List Nat) : Prop := ∃ base, w.ownsRow base 5 1 v l.length (vals .u8 l)
theorem Row.below {w w' : World} {v : Value} {l : List Nat} (h : Row w v l) (hb : Below w.heap.size w w') : Row w' v l := h.imp fun _ h => own_below h hb
theorem Row.conv {w : World} {v : Value} {l : List Nat} (h : Row w v l) (hl : 0 < l.length) : (convert 22 9 v).run Tryd.prog w = .ok (.string (strOf l)) w := conv_row h.choose_spec hl
theorem eq_str (s : ByteArray) (w : World) : (binOp .eql 9 (.string s) (.string s)).run Tryd.prog w = .ok (.bool true) w := by
  simp [go_sem]
theorem guard_str (x y : Operand) (s t : ByteArray) (w : World) : (eqGuard .eql 9 x y (.string s) (.string t)).run Tryd.prog w = .ok () w := by
  simp [eqGuard]
theorem build_part (A : Option Addr) (n c : Nat) (w : World) : (Instr.buildSlice 37 1 #[(0, .slice A n c)]).run Tryd.prog w = .ok (.slice (some ⟨w.heap.size, 0, none⟩) 1 1) (w.alloc (.cells #[.slice A n c] 22)) := by kernel_rfl
theorem enter10 (vs : Array Value) (w : World) : (callFunc 22 vs).run Tryd.prog w = .ok (.enter 22 vs) w := by kernel_rfl
theorem enter14 (vs : Array Value) (w : World) : (callFunc 23 vs).run Tryd.prog w = .ok (.enter 23 vs) w := by kernel_rfl
theorem enter12 (vs : Array Value) (w : World) : (callFunc 19 vs).run Tryd.prog w = .ok (.enter 19 vs) w := by kernel_rfl
end Go.Proofs.YtfkkpbfoipfekaaDoor
