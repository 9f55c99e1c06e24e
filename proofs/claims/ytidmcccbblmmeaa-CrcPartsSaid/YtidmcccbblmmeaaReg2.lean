/-
  A region that draws its order, over any program: what each kind of operation must be shown to do, whatever the order; operands by what is known of them; and the frame behind such a region.
-/
import Derived.Test.YtidmcccbblmmeaaReg
import Derived.Lib.Hide
namespace Go.Proofs.Ytidmcccbblmmeaa
open Go.RowKit
section
variable {P : Program} {ops : Array Oper} {K : Act → World → Prop} {Q : Exit → Act → World → Prop} {E : Prop} {a : Act} {w w' : World} {o : Oper}
theorem o_run {v : Value} (hw : Region.wanted o (yielded ops a.tmps) = true) (hrun : (execOp a.eval o).run P w = .ok (.value v) w') (h : K (a.put o.dst v) w') :
    if Region.wanted o (yielded ops a.tmps) = true then Oper.wp P o a w K Q else E := by
  rw [if_pos hw]; unfold Oper.wp; rw [hrun]; exact h
theorem o_move (x : Operand) (ho : o.op = .move x) {v : Value} (hx : a.eval x = v) (hw : Region.wanted o (yielded ops a.tmps) = true) (h : K (a.put o.dst v) w) :
    if Region.wanted o (yielded ops a.tmps) = true then Oper.wp P o a w K Q else E :=
  o_run hw (by unfold execOp; simp only [ho, hx]; rfl) h
theorem o_assign (x : Operand) (ho : o.op = .assign x) {v : Value} (hx : a.eval x = v) (hw : Region.wanted o (yielded ops a.tmps) = true) (h : K (a.put o.dst v) w) :
    if Region.wanted o (yielded ops a.tmps) = true then Oper.wp P o a w K Q else E :=
  o_run hw (by unfold execOp; simp only [ho, hx]; rfl) h
theorem o_conv (s d : TypeId) (x : Operand) (ho : o.op = .convert s d x) {u v : Value} (hx : a.eval x = u) (hrun : (convert s d u).run P w = .ok v w') (hw : Region.wanted o (yielded ops a.tmps) = true) (h : K (a.put o.dst v) w') :
    if Region.wanted o (yielded ops a.tmps) = true then Oper.wp P o a w K Q else E :=
  o_run hw (by unfold execOp; simp only [ho, hx, Sem.run_bind, hrun, Result.andThen_ok, Sem.run_pure]) h
theorem o_buildSlice1 (t : TypeId) (x : Operand) (ho : o.op = .buildSlice t 1 #[(0, x)]) {u v : Value} (hx : a.eval x = u) (hrun : (Instr.buildSlice t 1 #[(0, u)]).run P w = .ok v w') (hw : Region.wanted o (yielded ops a.tmps) = true) (h : K (a.put o.dst v) w') :
    if Region.wanted o (yielded ops a.tmps) = true then Oper.wp P o a w K Q else E :=
  o_run hw (by unfold execOp; simp only [ho, List.map_toArray, List.map_cons, List.map_nil, hx, Sem.run_bind, hrun, Result.andThen_ok, Sem.run_pure]) h
theorem o_binOp (op : BinOp) (t t2 : TypeId) (x y : Operand) (ho : o.op = .binOp op t x y t2) {u u' v : Value} (hx : a.eval x = u) (hy : a.eval y = u') (hg : (eqGuard op t x y u u').run P w = .ok () w) (hrun : (binOp op t u u').run P w = .ok v w')
    (hw : Region.wanted o (yielded ops a.tmps) = true) (h : K (a.put o.dst v) w') : if Region.wanted o (yielded ops a.tmps) = true then Oper.wp P o a w K Q else E :=
  o_run hw (by unfold execOp; simp only [ho, hx, hy, Sem.run_bind, hg, hrun, Result.andThen_ok, Sem.run_pure]) h
theorem o_pick (c x y : Operand) (ho : o.op = .pick c x y) {b : Bool} {u u' : Value} (hc : a.eval c = .bool b) (hx : a.eval x = u) (hy : a.eval y = u') (hw : Region.wanted o (yielded ops a.tmps) = true) (h : K (a.put o.dst (if b then u else u')) w) :
    if Region.wanted o (yielded ops a.tmps) = true then Oper.wp P o a w K Q else E :=
  o_run hw (by unfold execOp; simp only [ho, hc, hx, hy]; rfl) h
theorem o_call (f : FuncId) (args : Array Operand) (ts : Array TypeId) (ho : o.op = .call { callee := .value (.func f), args := args, argTypes := ts }) (vs : Array Value) (hv : args.map a.eval = vs)
    (hcf : (callFunc f vs).run P w = .ok (.enter f vs) w) (hw : Region.wanted o (yielded ops a.tmps) = true) (hc : Calls P f vs w fun e w' => ∃ r, e = .returned r ∧ K (a.put o.dst r) w') :
    if Region.wanted o (yielded ops a.tmps) = true then Oper.wp P o a w K Q else E := by
  rw [if_pos hw]
  unfold Oper.wp execOp
  have he : a.eval (Operand.func f) = Value.func (Fn.func f) #[] #[] := rfl
  have hr : (resolve a.eval { callee := .value (.func f), args := args, argTypes := ts } o.type).run P w = .ok { target := .fn (.func f) #[], args := vs } w := by
    simp only [resolve, he, Deferred.ofValue, hv, Array.empty_append]
    rfl
  simp only [ho, Sem.run_bind, hr, Result.andThen_ok, invoke, hcf, Array.append_empty]
  refine hc.mono ?_
  rintro e w' ⟨r, rfl, hk⟩
  exact hk
theorem eval_tmp (a : Act) (t : Tmp) : a.eval (.tmp t) = a.tmps.getD t undef := by simp [Act.eval]
theorem yielded_of {i : Nat} {t : Tmp} {b : Bool} (hd : dstOf ops i = some t) (ht : t < a.tmps.size) (hb : a.tmps.getD t undef = .bool b) : yielded ops a.tmps i = some b := by
  unfold yielded
  unfold dstOf at hd
  rw [hd]
  simp only [Option.bind_some, Array.getElem?_eq_getElem ht]
  rw [Array.getD_eq_getD_getElem?, Array.getElem?_eq_getElem ht, Option.getD_some] at hb
  rw [hb]
end
/-- What is known of an operation's value; later steps keep it. -/
structure Kind where
  is : World → Value → Prop
  keep : ∀ w w' v, Below w.heap.size w w' → is w v → is w' v
def Kind.val (u : Value) : Kind := ⟨fun _ v => v = u, fun _ _ _ _ h => h⟩
def kinds (l : List Kind) (i : Nat) : Kind := l.getD i (.val undef)
def Rw (w0 : World) (w : World) : Prop := Below w0.heap.size w0 w
theorem Rw.step {w0 w w' : World} (h : Rw w0 w) (hb : Below w.heap.size w w') : Rw w0 w' := Below.trans h (hb.mono h.size)
theorem at0 (o : Oper) (l : List Oper) : (o :: l).toArray[0]? = some o := rfl
theorem atS {l : List Oper} {i : Nat} {o p : Oper} (h : l.toArray[i]? = some o) : (p :: l).toArray[i + 1]? = some o := by simpa using h
def depB (o : Oper) (j : Nat) : Bool := o.after.any fun e => e.on == j && Region.binds .any e
theorem dep_of {o : Oper} {j : Nat} {listed : Array Bool} (h : depB o j = true) (hd : ∀ e ∈ o.after, Region.binds .any e = true → listed.getD e.on false = true) : listed.getD j false = true := by
  unfold depB at h
  obtain ⟨i, hi, h⟩ := Array.any_eq_true.1 h
  simp only [Bool.and_eq_true, beq_iff_eq] at h
  rw [← h.1]
  exact hd _ (Array.getElem_mem hi) h.2
def notDstB (ops : Array Oper) (t : Tmp) : Bool := (List.range ops.size).all fun i => dstOf ops i != some t
theorem notDst_of {ops : Array Oper} {t : Tmp} (h : notDstB ops t = true) (i : Nat) : dstOf ops i ≠ some t := by
  intro e
  unfold notDstB at h
  rw [List.all_eq_true] at h
  have hi : i < ops.size := by
    unfold dstOf at e
    cases ho : ops[i]? with
    | none => simp [ho] at e
    | some o => exact (Array.getElem?_eq_some_iff.1 ho).1
  have := h i (List.mem_range.2 hi)
  simp [e] at this
/-- Its guard, if it has one, says what it wants. -/
def Gd (ops : Array Oper) (a0 : Act) (k : Nat → Kind) (o : Oper) : Prop := o.guard = none ∨ ∃ j t b, o.guard = some (j, b) ∧ k j = .val (.bool b) ∧ depB o j = true ∧ dstOf ops j = some t ∧ t < a0.tmps.size
section
variable {P : Program} {ops : Array Oper} {a0 : Act} {k : Nat → Kind} {w0 : World} {listed : Array Bool} {a : Act} {w : World} {Q : Exit → Act → World → Prop} {o : Oper} {i : Nat}
theorem Gd.wanted (hg : Gd ops a0 k o) (h : Rg ops a0 (Rw w0) (fun i => (k i).is) listed a w) (hd : ∀ e ∈ o.after, Region.binds .any e = true → listed.getD e.on false = true) : Region.wanted o (yielded ops a.tmps) = true := by
  unfold Region.wanted
  rcases hg with hg | ⟨j, t, b, hg, hk, hj, ht, hlt⟩
  · simp only [hg]
  · have h1 := h.new j t (dep_of hj hd) ht
    simp only [hk] at h1
    simp only [hg, yielded_of ht (by rw [h.len]; exact hlt) h1]
    cases b <;> rfl
theorem Rg.opd {j : Nat} {t : Tmp} (h : Rg ops a0 (Rw w0) (fun i => (k i).is) listed a w) (hd : ∀ e ∈ o.after, Region.binds .any e = true → listed.getD e.on false = true) (hj : depB o j = true) (ht : dstOf ops j = some t) : (k j).is w (a.eval (.tmp t)) := by
  rw [eval_tmp]; exact h.new j t (dep_of hj hd) ht
/-- An operand's value is known. -/
def Ev (ops : Array Oper) (a0 : Act) (k : Nat → Kind) (w0 : World) (o : Oper) (x : Operand) (P : World → Value → Prop) : Prop :=
  ∀ listed a w, Rg ops a0 (Rw w0) (fun i => (k i).is) listed a w → (∀ e ∈ o.after, Region.binds .any e = true → listed.getD e.on false = true) → P w (a.eval x)
theorem ev_tmp {j : Nat} {t : Tmp} {K : Kind} (hj : depB o j = true) (ht : dstOf ops j = some t) (hk : k j = K) : Ev ops a0 k w0 o (.tmp t) K.is := fun _ _ _ h hd => by
  have := h.opd hd hj ht
  rw [hk] at this
  exact this
theorem ev_const (v : Value) : Ev ops a0 k w0 o (.const v) (Kind.val v).is := fun _ _ _ _ _ => rfl
theorem ev_old {s : Tmp} {v : Value} (hs : notDstB ops s = true) (hv : a0.tmps.getD s undef = v) : Ev ops a0 k w0 o (.tmp s) (Kind.val v).is := fun _ a _ h _ => by
  rw [eval_tmp]
  exact (h.old s (notDst_of hs)).trans hv
/-- The parts that each lemma shares: which operation, its slot, its guard. -/
structure At (ops : Array Oper) (a0 : Act) (k : Nat → Kind) (i : Nat) (o : Oper) : Prop where
  hd : distinctB ops = true
  hi : ops[i]? = some o
  dst : ∃ t, o.dst = some t ∧ t < a0.tmps.size
  hg : Gd ops a0 k o
theorem At.fin {v : Value} {w' : World} (A : At ops a0 k i o) (h : Rg ops a0 (Rw w0) (fun i => (k i).is) listed a w) (hb : Below w.heap.size w w') (hv : (k i).is w' v) :
    Rg ops a0 (Rw w0) (fun i => (k i).is) (listed.setIfInBounds i true) (a.put o.dst v) w' := by
  obtain ⟨t, ht, hlt⟩ := A.dst
  exact h.put A.hd A.hi ht hlt (h.world.step hb) (fun j u hu => (k j).keep _ _ _ hb hu) hv
theorem ob_old (A : At ops a0 k i o) (s : Tmp) (hop : o.op = .move (.tmp s)) (hs : notDstB ops s = true) (hv : ∀ w, Rw w0 w → (k i).is w (a0.tmps.getD s undef)) : Obl P ops Q a0 (Rw w0) (fun i => (k i).is) i o :=
  fun _ _ _ h hd K hK => o_move _ hop (by rw [eval_tmp]; exact h.old s (notDst_of hs)) (A.hg.wanted h hd) (hK _ _ (A.fin h (Below.refl _ _) (hv _ h.world)))
theorem ob_move (A : At ops a0 k i o) (j : Nat) (t : Tmp) (hop : o.op = .move (.tmp t)) (hj : depB o j = true) (ht : dstOf ops j = some t) (hk : k i = k j) : Obl P ops Q a0 (Rw w0) (fun i => (k i).is) i o :=
  fun _ _ _ h hd K hK => o_move _ hop rfl (A.hg.wanted h hd) (hK _ _ (A.fin h (Below.refl _ _) (by rw [hk]; exact h.opd hd hj ht)))
theorem ob_assign (A : At ops a0 k i o) (j : Nat) (t : Tmp) (hop : o.op = .assign (.tmp t)) (hj : depB o j = true) (ht : dstOf ops j = some t) (hk : k i = k j) : Obl P ops Q a0 (Rw w0) (fun i => (k i).is) i o :=
  fun _ _ _ h hd K hK => o_assign _ hop rfl (A.hg.wanted h hd) (hK _ _ (A.fin h (Below.refl _ _) (by rw [hk]; exact h.opd hd hj ht)))
/-- An operation that leaves the world as it is, by its run. -/
theorem ob_run (A : At ops a0 k i o) (v : Value) (hrun : ∀ listed a w, Rg ops a0 (Rw w0) (fun i => (k i).is) listed a w → (∀ e ∈ o.after, Region.binds .any e = true → listed.getD e.on false = true) → (execOp a.eval o).run P w = .ok (.value v) w) (hki : ∀ w, Rw w0 w → (k i).is w v) :
    Obl P ops Q a0 (Rw w0) (fun i => (k i).is) i o :=
  fun listed a w h hd _ hK => o_run (A.hg.wanted h hd) (hrun listed a w h hd) (hK _ _ (A.fin h (Below.refl _ _) (hki w h.world)))
theorem ob_bin (A : At ops a0 k i o) (op : BinOp) (t t2 : TypeId) (x y : Operand) (hop : o.op = .binOp op t x y t2) (u u' v : Value) (hx : Ev ops a0 k w0 o x (Kind.val u).is) (hy : Ev ops a0 k w0 o y (Kind.val u').is)
    (hgd : ∀ w, (eqGuard op t x y u u').run P w = .ok () w) (hrun : ∀ w, (binOp op t u u').run P w = .ok v w) (hki : k i = .val v) : Obl P ops Q a0 (Rw w0) (fun i => (k i).is) i o :=
  fun listed a w h hd K hK =>
    o_binOp _ _ _ _ _ hop (hx listed a w h hd) (hy listed a w h hd) (hgd w) (hrun w) (A.hg.wanted h hd) (hK _ _ (A.fin h (Below.refl _ _) (by rw [hki]; rfl)))
theorem ob_convert (A : At ops a0 k i o) (s d : TypeId) (x : Operand) (hop : o.op = .convert s d x) (u v : Value) (hx : Ev ops a0 k w0 o x (Kind.val u).is) (hrun : ∀ w, (convert s d u).run P w = .ok v w) (hki : k i = .val v) : Obl P ops Q a0 (Rw w0) (fun i => (k i).is) i o :=
  fun listed a w h hd K hK => o_conv _ _ _ hop (hx listed a w h hd) (hrun w) (A.hg.wanted h hd) (hK _ _ (A.fin h (Below.refl _ _) (by rw [hki]; rfl)))
theorem ob_pick (A : At ops a0 k i o) (c x y : Operand) (hop : o.op = .pick c x y) (b : Bool) (u u' : Value) (hc : Ev ops a0 k w0 o c (Kind.val (.bool b)).is) (hx : Ev ops a0 k w0 o x (Kind.val u).is) (hy : Ev ops a0 k w0 o y (Kind.val u').is) (hki : k i = .val (if b then u else u')) :
    Obl P ops Q a0 (Rw w0) (fun i => (k i).is) i o :=
  fun listed a w h hd K hK => o_pick _ _ _ hop (hc listed a w h hd) (hx listed a w h hd) (hy listed a w h hd) (A.hg.wanted h hd) (hK _ _ (A.fin h (Below.refl _ _) (by rw [hki]; rfl)))
/-- A slice expression whose operands are known, with an upper bound alone. -/
theorem ob_head (A : At ops a0 k i o) (t : TypeId) (x y : Operand) (hop : o.op = .slice t x none (some y) none) (u u' v : Value) (hx : Ev ops a0 k w0 o x (Kind.val u).is) (hy : Ev ops a0 k w0 o y (Kind.val u').is)
    (hrun : ∀ w, (Instr.sliceAt t u none (some u') none).run P w = .ok v w) (hki : k i = .val v) : Obl P ops Q a0 (Rw w0) (fun i => (k i).is) i o :=
  ob_run A v (fun listed a w h hd => by
    have e : a.eval x = u := hx listed a w h hd
    have e' : a.eval y = u' := hy listed a w h hd
    unfold execOp
    simp only [hop, e, e', Option.map_some, Option.map_none, Sem.run_bind, hrun w, Result.andThen_ok, Sem.run_pure]) (fun w _ => by rw [hki]; rfl)
/-- A list of one that is made. -/
theorem ob_build (A : At ops a0 k i o) (t : TypeId) (x : Operand) (hop : o.op = .buildSlice t 1 #[(0, x)]) (u : Value) (f : World → World) (hx : Ev ops a0 k w0 o x (Kind.val u).is) (g : World → Value)
    (hrun : ∀ w, (Instr.buildSlice t 1 #[(0, u)]).run P w = .ok (g w) (f w)) (hb : ∀ w, Below w.heap.size w (f w)) (hki : ∀ w, Rw w0 w → (k i).is (f w) (g w)) : Obl P ops Q a0 (Rw w0) (fun i => (k i).is) i o :=
  fun listed a w h hd _ hK => o_buildSlice1 _ _ hop (hx listed a w h hd) (hrun w) (A.hg.wanted h hd) (hK _ _ (A.fin h (hb w) (hki w h.world)))
/-- A call, by its contract. -/
theorem ob_call (A : At ops a0 k i o) (f : FuncId) (args : Array Operand) (ts : Array TypeId) (hop : o.op = .call { callee := .value (.func f), args := args, argTypes := ts })
    (hc : ∀ listed a w, Rg ops a0 (Rw w0) (fun i => (k i).is) listed a w → (∀ e ∈ o.after, Region.binds .any e = true → listed.getD e.on false = true) →
      ∃ vs, args.map a.eval = vs ∧ (callFunc f vs).run P w = .ok (.enter f vs) w ∧ Calls P f vs w fun e w' => ∃ r, e = .returned r ∧ (k i).is w' r ∧ Below w.heap.size w w') :
    Obl P ops Q a0 (Rw w0) (fun i => (k i).is) i o :=
  fun listed a w h hd K hK => by
    obtain ⟨vs, hv, he, hcall⟩ := hc listed a w h hd
    refine o_call f args ts hop vs hv he (A.hg.wanted h hd) (hcall.mono ?_)
    rintro e w' ⟨r, rfl, hr, hb⟩
    exact ⟨r, rfl, hK _ _ (A.fin h hb hr)⟩
/-- The same, of one argument of which something is known. -/
theorem ob_call1 (A : At ops a0 k i o) (f : FuncId) (x : Operand) (ts : Array TypeId) (hop : o.op = .call { callee := .value (.func f), args := #[x], argTypes := ts }) (R : World → Value → Prop) (hx : Ev ops a0 k w0 o x R)
    (he : ∀ v w, (callFunc f #[v]).run P w = .ok (.enter f #[v]) w) (hc : ∀ v w, Rw w0 w → R w v → Calls P f #[v] w fun e w' => ∃ r, e = .returned r ∧ (k i).is w' r ∧ Below w.heap.size w w') :
    Obl P ops Q a0 (Rw w0) (fun i => (k i).is) i o :=
  ob_call A f _ ts hop fun listed a w h hd => ⟨#[a.eval x], by simp only [List.map_toArray, List.map_cons, List.map_nil], he _ _, hc _ _ h.world (hx listed a w h hd)⟩
end
theorem puts_len (f : Tmp → Value) : ∀ (ds : List Tmp) (a : Act), (ds.foldl (fun b t => b.put (some t) (f t)) a).tmps.size = a.tmps.size ∧ (ds.foldl (fun b t => b.put (some t) (f t)) a).defers = a.defers
  | [], _ => ⟨rfl, rfl⟩
  | d :: r, a => by
    obtain ⟨h1, h2⟩ := puts_len f r (a.put (some d) (f d))
    exact ⟨by rw [List.foldl_cons, h1]; simp [Act.put], by rw [List.foldl_cons, h2]; rfl⟩
theorem puts_at (f : Tmp → Value) (t : Tmp) : ∀ (ds : List Tmp) (a : Act), t < a.tmps.size → (ds.foldl (fun b t => b.put (some t) (f t)) a).tmps.getD t undef = if t ∈ ds then f t else a.tmps.getD t undef
  | [], a, _ => by simp
  | d :: r, a, ht => by
    rw [List.foldl_cons, puts_at f t r (a.put (some d) (f d)) (by simpa [Act.put] using ht)]
    by_cases hr : t ∈ r
    · rw [if_pos hr, if_pos (List.mem_cons_of_mem _ hr)]
    · rw [if_neg hr]
      by_cases hd : d = t
      · subst hd
        rw [getD_put a d d _ ht, if_pos rfl, if_pos List.mem_cons_self]
      · by_cases hdl : d < a.tmps.size
        · rw [getD_put a d t _ hdl, if_neg hd, if_neg (by simp [hr]; exact fun e => hd e.symm)]
        · rw [if_neg (by simp [hr]; exact fun e => hd e.symm)]
          simp only [Act.put, Array.getD_eq_getD_getElem?]
          rw [Array.getElem?_setIfInBounds_ne hd]
theorem act_eq {ops : Array Oper} {a a' : Act} (ds : List Tmp) (hds : (List.range ops.size).all (fun i => ((dstOf ops i).map fun t => ds.contains t).getD true) = true) (hdf : a'.defers = a.defers) (hsz : a'.tmps.size = a.tmps.size)
    (hold : ∀ t, (∀ i, dstOf ops i ≠ some t) → a'.tmps.getD t undef = a.tmps.getD t undef) : a' = ds.foldl (fun b t => b.put (some t) (a'.tmps.getD t undef)) a := by
  obtain ⟨h1, h2⟩ := puts_len (fun t => a'.tmps.getD t undef) ds a
  have ht : a'.tmps = (ds.foldl (fun b t => b.put (some t) (a'.tmps.getD t undef)) a).tmps := by
    apply Array.ext
    · rw [h1, hsz]
    · intro t l1 l2
      have e := puts_at (fun t => a'.tmps.getD t undef) t ds a (by rw [← hsz]; exact l1)
      have e1 : a'.tmps.getD t undef = a'.tmps[t] := by simp [Array.getD_eq_getD_getElem?, l1]
      have e2 : ∀ b : Act, ∀ l : t < b.tmps.size, b.tmps.getD t undef = b.tmps[t] := fun b l => by simp [Array.getD_eq_getD_getElem?, l]
      rw [← e1, ← e2 _ l2, e]
      by_cases hm : t ∈ ds
      · rw [if_pos hm]
      · rw [if_neg hm]
        refine hold t fun i hi => hm ?_
        rw [List.all_eq_true] at hds
        have hlt : i < ops.size := by
          unfold dstOf at hi
          cases ho : ops[i]? with
          | none => simp [ho] at hi
          | some o => exact (Array.getElem?_eq_some_iff.1 ho).1
        have := hds i (List.mem_range.2 hlt)
        simpa [hi] using this
  cases a'
  simp only at ht h2 hdf ⊢
  rw [Act.mk.injEq]
  exact ⟨ht, by rw [h2]; exact hdf⟩
end Go.Proofs.Ytidmcccbblmmeaa
