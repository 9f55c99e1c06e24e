/-
  A region whose operations compare hashes: what each kind of operation must be shown to do, whatever the order.
-/
import Derived.Test.YtfkkpbfoipfekaaDoorReg2
namespace Go.Proofs.YtfkkpbfoipfekaaDoor
open Go.RowKit
theorem Hst.keep {w w' : World} {g g' n : Nat} {m : List Nat} (h : Hst w g m n) (hg : w.grownBy w' (some g')) (hne : g ≠ g') : Hst w' g m n := by
  obtain ⟨blk, hT, hB⟩ := h
  exact ⟨blk, hT, hB.grown hg (by intro e; injection e with e; exact hne e)⟩
theorem Hst.below {w w' : World} {g n B : Nat} {m : List Nat} (h : Hst w g m n) (hb : Below B w w') (hg : g < B) : Hst w' g m n := by
  obtain ⟨blk, hT, hB⟩ := h
  exact ⟨blk, hT, hB.below hb hg⟩
theorem Hst.lt {w : World} {g n : Nat} {m : List Nat} (h : Hst w g m n) : g < w.heap.size := by obtain ⟨_, _, hB⟩ := h; exact hB.lt
theorem Parts.below {w w' : World} {B : Nat} {A : Option Addr} {ps : List (List Nat)} (h : Parts w B A ps) (hb : Below B w w') (hB : B ≤ w'.heap.size) : Parts w' w'.heap.size A ps := fun i hi => by
  obtain ⟨ad, Ai, ci, e, h1, h2, h3, h4⟩ := h i hi
  exact ⟨ad, Ai, ci, e, by omega, (hb.cell (by rw [block_add]; exact h1)).trans h2, h3, (h4.below hb).more hB⟩
/-- What the value of an operation is. -/
inductive Kd where
  | val (v : Value)
  | row (l : List Nat)
  | str (l : List Nat)
  | bytes (l : List Nat)
  | parts (ps : List (List Nat))
  | hash (l : List Nat)
def Kd.is : Kd → World → Value → Prop
  | .val u, _, v => v = u
  | .row l, w, v => Row w v l
  | .str l, _, v => v = .string (strOf l)
  | .bytes l, w, v => Sha.Bs l ∧ ∃ A c, v = .slice A l.length c ∧ l.length ≤ c ∧ RdB w w.heap.size A l
  | .parts ps, w, v => (∀ p ∈ ps, Sha.Bs p) ∧ ∃ A c, v = .slice A ps.length c ∧ Parts w w.heap.size A ps
  | .hash l, w, v => ∃ g, v = .pointer (some ⟨g, 0, none⟩) ∧ 2 ≤ g ∧ Hst w g l l.length
theorem Kd.is.below {k : Kd} {w w' : World} {v : Value} (h : k.is w v) (hb : Below w.heap.size w w') : k.is w' v := by
  cases k with
  | val u => exact h
  | row l => exact Row.below h hb
  | str l => exact h
  | bytes l =>
    obtain ⟨hB, A, c, e, hc, hr⟩ := h
    exact ⟨hB, A, c, e, hc, (hr.below hb).more hb.size⟩
  | parts ps =>
    obtain ⟨hB, A, c, e, hr⟩ := h
    exact ⟨hB, A, c, e, hr.below hb hb.size⟩
  | hash l =>
    obtain ⟨g, e, hg, hh⟩ := h
    exact ⟨g, e, hg, hh.below hb hh.lt⟩
/-- The tables lie where the text lays them. -/
def Cx (w : World) : Prop := Iat w ∧ Kat w ∧ 2 ≤ w.heap.size
theorem Cx.below {w w' : World} (h : Cx w) (hb : Below w.heap.size w w') : Cx w' :=
  ⟨h.1.below hb (by have := h.2.2; omega), h.2.1.below hb h.2.2, Nat.le_trans h.2.2 hb.size⟩
def Rw (w0 : World) (w : World) : Prop := Below w0.heap.size w0 w
theorem Rw.step {w0 w w' : World} (h : Rw w0 w) (hb : Below w.heap.size w w') : Rw w0 w' := Below.trans h (hb.mono h.size)
def depB (o : Oper) (j : Nat) : Bool := o.after.any fun e => e.on == j && Region.binds .any e
theorem dep_of {o : Oper} {j : Nat} {listed : Array Bool} (h : depB o j = true) (hd : ∀ e ∈ o.after, Region.binds .any e = true → listed.getD e.on false = true) : listed.getD j false = true := by
  unfold depB at h
  obtain ⟨i, hi, h⟩ := Array.any_eq_true.1 h
  simp only [Bool.and_eq_true, beq_iff_eq] at h
  rw [← h.1]
  exact hd _ (Array.getElem_mem hi) h.2
def notDstB (ops : Array Oper) (t : Tmp) : Bool := (List.range ops.size).all fun i => dstOf ops i != some t
theorem notDst_of {ops : Array Oper} {t : Tmp} (h : notDstB ops t = true) (i : Nat) : dstOf ops i ≠ some t := by
  intro e
  unfold notDstB at h
  rw [List.all_eq_true] at h
  have hi : i < ops.size := by
    unfold dstOf at e
    cases ho : ops[i]? with
    | none => simp [ho] at e
    | some o => exact (Array.getElem?_eq_some_iff.1 ho).1
  have := h i (List.mem_range.2 hi)
  simp [e] at this
/-- Its guard, if it has one, says what it wants. -/
def Gd (ops : Array Oper) (a0 : Act) (k : Nat → Kd) (o : Oper) : Prop := o.guard = none ∨ ∃ j t b, o.guard = some (j, b) ∧ k j = .val (.bool b) ∧ depB o j = true ∧ dstOf ops j = some t ∧ t < a0.tmps.size
section
variable {ops : Array Oper} {a0 : Act} {k : Nat → Kd} {w0 : World} {listed : Array Bool} {a : Act} {w : World} {Q : Exit → Act → World → Prop} {o : Oper} {i : Nat}
theorem Gd.wanted (hg : Gd ops a0 k o) (h : Rg ops a0 (Rw w0) (fun i => (k i).is) listed a w) (hd : ∀ e ∈ o.after, Region.binds .any e = true → listed.getD e.on false = true) : Region.wanted o (yielded ops a.tmps) = true := by
  unfold Region.wanted
  rcases hg with hg | ⟨j, t, b, hg, hk, hj, ht, hlt⟩
  · simp only [hg]
  · have h1 := h.new j t (dep_of hj hd) ht
    simp only [hk] at h1
    simp only [hg, yielded_of ht (by rw [h.len]; exact hlt) h1]
    cases b <;> rfl
theorem Rg.opd {j : Nat} {t : Tmp} (h : Rg ops a0 (Rw w0) (fun i => (k i).is) listed a w) (hd : ∀ e ∈ o.after, Region.binds .any e = true → listed.getD e.on false = true) (hj : depB o j = true) (ht : dstOf ops j = some t) : (k j).is w (a.eval (.tmp t)) := by
  rw [eval_tmp]; exact h.new j t (dep_of hj hd) ht
/-- The parts that each lemma shares: which operation, its slot, its guard. -/
structure At (ops : Array Oper) (a0 : Act) (k : Nat → Kd) (i : Nat) (o : Oper) : Prop where
  hd : distinctB ops = true
  hi : ops[i]? = some o
  dst : ∃ t, o.dst = some t ∧ t < a0.tmps.size
  hg : Gd ops a0 k o
theorem At.fin {v : Value} {w' : World} (A : At ops a0 k i o) (h : Rg ops a0 (Rw w0) (fun i => (k i).is) listed a w) (hb : Below w.heap.size w w') (hv : (k i).is w' v) :
    Rg ops a0 (Rw w0) (fun i => (k i).is) (listed.setIfInBounds i true) (a.put o.dst v) w' := by
  obtain ⟨t, ht, hlt⟩ := A.dst
  exact h.put A.hd A.hi ht hlt (h.world.step hb) (fun _ _ hu => hu.below hb) hv
theorem ob_old (A : At ops a0 k i o) (s : Tmp) (hop : o.op = .move (.tmp s)) (hs : notDstB ops s = true) (hv : ∀ w, Rw w0 w → (k i).is w (a0.tmps.getD s undef)) : Obl Tryd.prog ops Q a0 (Rw w0) (fun i => (k i).is) i o :=
  fun _ _ _ h hd K hK => o_move _ hop (by rw [eval_tmp]; exact h.old s (notDst_of hs)) (A.hg.wanted h hd) (hK _ _ (A.fin h (Below.refl _ _) (hv _ h.world)))
theorem ob_move (A : At ops a0 k i o) (j : Nat) (t : Tmp) (hop : o.op = .move (.tmp t)) (hj : depB o j = true) (ht : dstOf ops j = some t) (hk : k i = k j) : Obl Tryd.prog ops Q a0 (Rw w0) (fun i => (k i).is) i o :=
  fun _ _ _ h hd K hK => o_move _ hop rfl (A.hg.wanted h hd) (hK _ _ (A.fin h (Below.refl _ _) (by rw [hk]; exact h.opd hd hj ht)))
theorem ob_assign (A : At ops a0 k i o) (j : Nat) (t : Tmp) (hop : o.op = .assign (.tmp t)) (hj : depB o j = true) (ht : dstOf ops j = some t) (hk : k i = k j) : Obl Tryd.prog ops Q a0 (Rw w0) (fun i => (k i).is) i o :=
  fun _ _ _ h hd K hK => o_assign _ hop rfl (A.hg.wanted h hd) (hK _ _ (A.fin h (Below.refl _ _) (by rw [hk]; exact h.opd hd hj ht)))
theorem ob_conv (A : At ops a0 k i o) (j : Nat) (t : Tmp) (l : List Nat) (hop : o.op = .convert 22 9 (.tmp t)) (hj : depB o j = true) (ht : dstOf ops j = some t) (hkj : k j = .row l) (hki : k i = .str l) (hl : 0 < l.length) : Obl Tryd.prog ops Q a0 (Rw w0) (fun i => (k i).is) i o :=
  fun _ _ _ h hd K hK => by
    have h1 := h.opd hd hj ht
    rw [hkj] at h1
    exact o_conv _ _ _ hop rfl (Row.conv h1 hl) (A.hg.wanted h hd) (hK _ _ (A.fin h (Below.refl _ _) (by rw [hki]; rfl)))
theorem ob_build1 (A : At ops a0 k i o) (j : Nat) (t : Tmp) (l : List Nat) (hop : o.op = .buildSlice 37 1 #[(0, .tmp t)]) (hj : depB o j = true) (ht : dstOf ops j = some t) (hkj : k j = .bytes l) (hki : k i = .parts [l]) : Obl Tryd.prog ops Q a0 (Rw w0) (fun i => (k i).is) i o :=
  fun _ _ w h hd K hK => by
    have h1 := h.opd hd hj ht
    rw [hkj] at h1
    obtain ⟨hB, A', c, e, hc, hr⟩ := h1
    refine o_buildSlice1 _ _ hop e (build_part A' l.length c w) (A.hg.wanted h hd) (hK _ _ (A.fin h ((Below.refl _ _).alloc (Nat.le_refl _) _) ?_))
    rw [hki]
    refine ⟨fun p hp => by rw [List.mem_singleton] at hp; subst hp; exact hB, _, 1, rfl, fun n hn => ?_⟩
    obtain rfl : n = 0 := by simpa using hn
    refine ⟨_, A', c, rfl, by simp, ?_, hc, (hr.below ((Below.refl _ _).alloc (Nat.le_refl _) _)).more (by simp)⟩
    rw [Addr.add_mid, (Blk.new w 22 #[.slice A' l.length c]).cell]
    rfl
theorem ob_sum (A : At ops a0 k i o) (x : Operand) (ts : Array TypeId) (ps : List (List Nat)) (hop : o.op = .call { callee := .value (.func 22), args := #[x], argTypes := ts })
    (hx : ∀ listed a w, Rg ops a0 (Rw w0) (fun i => (k i).is) listed a w → (∀ e ∈ o.after, Region.binds .any e = true → listed.getD e.on false = true) → (Kd.parts ps).is w (a.eval x))
    (hki : k i = .row (Sha.sum ps.flatten)) (hC : Cx w0) (hn : ps.length ≤ 1152921504606846976) (hN : ps.flatten.length < 576460752303423488) : Obl Tryd.prog ops Q a0 (Rw w0) (fun i => (k i).is) i o :=
  fun listed a w h hd K hK => by
    obtain ⟨hB, A', c, e, hr⟩ := hx listed a w h hd
    have hC' := hC.below h.world
    refine o_call 22 _ ts hop #[.slice A' ps.length c] (by simp [e]) (enter10 _ _) (A.hg.wanted h hd) ((sum_any w A' c ps hr hB hC'.1 hC'.2.1 hC'.2.2 hn hN).mono ?_)
    rintro e w' ⟨v, rfl, hown, hb⟩
    exact ⟨v, rfl, hK _ _ (A.fin h hb (by rw [hki]; exact ⟨_, hown⟩))⟩
theorem ob_hsum (A : At ops a0 k i o) (j : Nat) (t : Tmp) (ts : Array TypeId) (l : List Nat) (hop : o.op = .call { callee := .value (.func 23), args := #[.tmp t], argTypes := ts }) (hj : depB o j = true) (ht : dstOf ops j = some t)
    (hkj : k j = .hash l) (hki : k i = .row (Sha.sum l)) (hC : Cx w0) (hN : l.length < 576460752303423488) : Obl Tryd.prog ops Q a0 (Rw w0) (fun i => (k i).is) i o :=
  fun listed a w h hd K hK => by
    have h1 := h.opd hd hj ht
    rw [hkj] at h1
    obtain ⟨g, e, hg, hh⟩ := h1
    have hC' := hC.below h.world
    refine o_call 23 _ ts hop #[.pointer (some ⟨g, 0, none⟩)] (by simp only [List.map_toArray, List.map_cons, List.map_nil, e]) (enter14 _ _) (A.hg.wanted h hd) ((hsum_any w g l hh hC'.2.1 hg hN).mono ?_)
    rintro e w' ⟨v, rfl, hown, hb⟩
    exact ⟨v, rfl, hK _ _ (A.fin h hb (by rw [hki]; exact ⟨_, hown⟩))⟩
theorem ob_eql (A : At ops a0 k i o) (j j' : Nat) (t t' : Tmp) (l : List Nat) (hop : o.op = .binOp .eql 9 (.tmp t) (.tmp t') 9) (hj : depB o j = true) (ht : dstOf ops j = some t) (hj' : depB o j' = true) (ht' : dstOf ops j' = some t')
    (hkj : k j = .str l) (hkj' : k j' = .str l) (hki : k i = .val (.bool true)) : Obl Tryd.prog ops Q a0 (Rw w0) (fun i => (k i).is) i o :=
  fun listed a w h hd K hK => by
    have h1 := h.opd hd hj ht
    have h2 := h.opd hd hj' ht'
    rw [hkj] at h1
    rw [hkj'] at h2
    exact o_binOp _ _ _ _ _ hop h1 h2 (guard_str _ _ _ _ _) (eq_str _ _) (A.hg.wanted h hd) (hK _ _ (A.fin h (Below.refl _ _) (by rw [hki]; rfl)))
theorem ob_pick (A : At ops a0 k i o) (j j' : Nat) (t t' : Tmp) (hop : o.op = .pick (.tmp t) (.tmp t') (.const (.bool false))) (hj : depB o j = true) (ht : dstOf ops j = some t) (hj' : depB o j' = true) (ht' : dstOf ops j' = some t')
    (hkj : k j = .val (.bool true)) (hkj' : k j' = .val (.bool true)) (hki : k i = .val (.bool true)) : Obl Tryd.prog ops Q a0 (Rw w0) (fun i => (k i).is) i o :=
  fun listed a w h hd K hK => by
    have h1 := h.opd hd hj ht
    have h2 := h.opd hd hj' ht'
    rw [hkj] at h1
    rw [hkj'] at h2
    exact o_pick _ _ _ hop h1 h2 rfl (A.hg.wanted h hd) (hK _ _ (A.fin h (Below.refl _ _) (by rw [hki]; rfl)))
end
end Go.Proofs.YtfkkpbfoipfekaaDoor
