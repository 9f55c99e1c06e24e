/-
  A region that draws its order, by what each operation's value is: if each operation, wherever it comes up, leaves a value of which something holds that later steps keep, then behind the region all of these hold, whatever the order.
-/
import Derived.WalkKit
import Derived.RegionTactic
namespace Go.Proofs.Ytidmcccbblmmeaa
open Go.RowKit
/-- The slot that operation i writes. -/
def dstOf (ops : Array Oper) (i : Nat) : Option Tmp := (ops[i]?).bind (·.dst)
/-- No two operations write one slot; each waits for earlier ones alone. -/
def distinctB (ops : Array Oper) : Bool := (List.range ops.size).all fun i => (List.range ops.size).all fun j => i == j || (dstOf ops i).isNone || dstOf ops i != dstOf ops j
def lowB (ops : Array Oper) : Bool := (List.range ops.size).all fun i => ((ops[i]?).map fun o => o.after.all fun e => !Region.binds .any e || decide (e.on < i)).getD true
theorem distinct_of {ops : Array Oper} (h : distinctB ops = true) {i j : Nat} {t : Tmp} (hi : dstOf ops i = some t) (hj : dstOf ops j = some t) : i = j := by
  have lt : ∀ k, dstOf ops k = some t → k < ops.size := fun k hk => by
    unfold dstOf at hk
    cases ho : ops[k]? with
    | none => simp [ho] at hk
    | some o => exact (Array.getElem?_eq_some_iff.1 ho).1
  unfold distinctB at h
  rw [List.all_eq_true] at h
  have h1 := h i (List.mem_range.2 (lt i hi))
  rw [List.all_eq_true] at h1
  have h2 := h1 j (List.mem_range.2 (lt j hj))
  simpa [hi, hj] using h2
structure Rg (ops : Array Oper) (a0 : Act) (R : World → Prop) (G : Nat → World → Value → Prop) (listed : Array Bool) (a : Act) (w : World) : Prop where
  size : listed.size = ops.size
  defers : a.defers = a0.defers
  len : a.tmps.size = a0.tmps.size
  old : ∀ t, (∀ i, dstOf ops i ≠ some t) → a.tmps.getD t undef = a0.tmps.getD t undef
  new : ∀ i t, listed.getD i false = true → dstOf ops i = some t → G i w (a.tmps.getD t undef)
  world : R w
section
variable {P : Program} {ops : Array Oper} {a0 : Act} {R : World → Prop} {G : Nat → World → Value → Prop} {listed : Array Bool} {a : Act} {w : World} {Q : Exit → Act → World → Prop}
theorem getD_put (a : Act) (t t' : Tmp) (v : Value) (ht : t < a.tmps.size) : (a.put (some t) v).tmps.getD t' undef = if t = t' then v else a.tmps.getD t' undef := by
  simp only [Act.put, Array.getD_eq_getD_getElem?, Array.getElem?_setIfInBounds]
  by_cases h : t = t'
  · subst h; simp [ht]
  · simp [h]
theorem Rg.put {i : Nat} {o : Oper} {t : Tmp} {v : Value} {w' : World} (h : Rg ops a0 R G listed a w) (hd : distinctB ops = true) (hi : ops[i]? = some o) (ho : o.dst = some t) (ht : t < a0.tmps.size) (hR : R w')
    (hm : ∀ j u, G j w u → G j w' u) (hv : G i w' v) : Rg ops a0 R G (listed.setIfInBounds i true) (a.put o.dst v) w' := by
  have hdi : dstOf ops i = some t := by simp [dstOf, hi, ho]
  have ht' : t < a.tmps.size := by rw [h.len]; exact ht
  rw [ho]
  refine ⟨by simpa using h.size, h.defers, by simpa [Act.put] using h.len, fun t' hn => ?_, fun j t' hl hj => ?_, hR⟩
  · rw [getD_put a t t' v ht', if_neg (fun e => hn i (by rw [hdi, e]))]
    exact h.old t' hn
  · rw [getD_put a t t' v ht']
    by_cases hij : i = j
    · subst hij
      rw [hdi] at hj
      injection hj with hj
      rw [if_pos hj]
      exact hv
    · rw [if_neg (fun e => hij (distinct_of hd hdi (by rw [hj, e])))]
      rw [getD_set_ne false hij] at hl
      exact hm _ _ (h.new j t' hl hj)
/-- What must be shown of operation i. -/
def Obl (P : Program) (ops : Array Oper) (Q : Exit → Act → World → Prop) (a0 : Act) (R : World → Prop) (G : Nat → World → Value → Prop) (i : Nat) (o : Oper) : Prop :=
  ∀ (listed : Array Bool) (a : Act) (w : World), Rg ops a0 R G listed a w → (∀ e ∈ o.after, Region.binds .any e = true → listed.getD e.on false = true) →
    ∀ K : Act → World → Prop, (∀ a' w', Rg ops a0 R G (listed.setIfInBounds i true) a' w' → K a' w') → if Region.wanted o (yielded ops a.tmps) = true then Oper.wp P o a w K Q else K (a.put o.dst undef) w
def Obls (P : Program) (ops : Array Oper) (Q : Exit → Act → World → Prop) (a0 : Act) (R : World → Prop) (G : Nat → World → Value → Prop) : Nat → List Oper → Prop
  | _, [] => True
  | i, o :: r => Obl P ops Q a0 R G i o ∧ Obls P ops Q a0 R G (i + 1) r
theorem Obls.at {l : List Oper} : ∀ {k : Nat}, Obls P ops Q a0 R G k l → ∀ i o, l[i]? = some o → Obl P ops Q a0 R G (k + i) o := by
  induction l with
  | nil => intro k _ i o h; simp at h
  | cons x r ih =>
    intro k h i o hi
    cases i with
    | zero => simp at hi; subst hi; exact h.1
    | succ i =>
      have := ih h.2 i o (by simpa using hi)
      rw [show k + (i + 1) = k + 1 + i by omega]
      exact this
theorem all_listed (hlow : lowB ops = true) (hs : listed.size = ops.size) (hr : Region.ready .any ops listed = []) : ∀ n i, i < n → i < ops.size → listed.getD i false = true := by
  intro n
  induction n with
  | zero => intro i h; omega
  | succ n ih =>
    intro i hin hi
    by_cases hlt : i < n
    · exact ih i hlt hi
    · have hi2 : i < listed.size := by omega
      cases hli : listed.getD i false with
      | true => rfl
      | false =>
        exfalso
        have hmem : i ∈ Region.ready .any ops listed := by
          rw [mem_ready]
          refine ⟨?_, ops[i], Array.getElem?_eq_getElem hi, fun e he hb => ?_⟩
          · simpa [hi2] using hli
          · unfold lowB at hlow
            rw [List.all_eq_true] at hlow
            have h1 := hlow i (List.mem_range.2 hi)
            rw [Array.getElem?_eq_getElem hi] at h1
            simp only [Option.map_some, Option.getD_some, Array.all_eq_true_iff_forall_mem] at h1
            have h2 := h1 e he
            simp only [hb, Bool.not_true, Bool.false_or, decide_eq_true_eq] at h2
            exact ih e.on (by omega) (by omega)
        rw [hr] at hmem
        cases hmem
/-- How many operations are not listed yet. -/
def left (listed : Array Bool) : Nat := (listed.toList.filter (! ·)).length
theorem left_set {i : Nat} (h : listed.getD i true = false) : left (listed.setIfInBounds i true) + 1 = left listed := by
  have hi : i < listed.size := by
    by_cases hi : i < listed.size
    · exact hi
    · simp [Array.getElem?_eq_none (Nat.le_of_not_lt hi)] at h
  have hv : listed.toList[i]'(by simpa using hi) = false := by simpa [hi] using h
  unfold left
  simp only [Array.toList_setIfInBounds]
  obtain ⟨l⟩ := listed
  simp only at hv hi ⊢
  clear h
  induction l generalizing i with
  | nil => simp at hi
  | cons b r ih =>
    cases i with
    | zero => simp at hv; subst hv; simp
    | succ i =>
      have := ih (i := i) (by simpa using hi) (by simpa using hv)
      cases b <;> simp_all
theorem inv_any (hlow : lowB ops = true) (step : Obls P ops Q a0 R G 0 ops.toList)
    (fin : ∀ a' w', (∀ i t, i < ops.size → dstOf ops i = some t → G i w' (a'.tmps.getD t undef)) → a'.defers = a0.defers → a'.tmps.size = a0.tmps.size → (∀ t, (∀ i, dstOf ops i ≠ some t) → a'.tmps.getD t undef = a0.tmps.getD t undef) → R w' → Q .normal a' w') :
    ∀ fuel listed a w, Rg ops a0 R G listed a w → left listed ≤ fuel → wpAny P .any ops Q fuel listed a w := by
  have done : ∀ listed a w, Rg ops a0 R G listed a w → Region.ready .any ops listed = [] → Q .normal a w := fun listed a w h hr =>
    fin a w (fun i t hi ht => h.new i t (all_listed hlow h.size hr (i + 1) i (by omega) hi) ht) h.defers h.len h.old h.world
  intro fuel
  induction fuel with
  | zero =>
    intro listed a w h hl
    have hr : Region.ready .any ops listed = [] := by
      rw [List.eq_nil_iff_forall_not_mem]
      intro i hi
      have := left_set (mem_ready.1 hi).1
      omega
    exact ⟨hr, done listed a w h hr⟩
  | succ fuel ih =>
    intro listed a w h hl
    refine ⟨fun hr => done listed a w h hr, fun i hi => ?_⟩
    obtain ⟨h0, o, ho, hdep⟩ := mem_ready.1 hi
    have ob := step.at i o (by simpa using ho)
    rw [Nat.zero_add] at ob
    refine wpOp_step ho fun K hK => ob listed a w h hdep K fun a' w' h' => hK a' w' (ih _ a' w' h' ?_)
    have := left_set h0
    omega
theorem region_inv {id : Nat} (R : World → Prop) (G : Nat → World → Value → Prop) (hmix : P.follows .mixedOrders = true) (hlow : lowB ops = true) (h0 : R w.drew) (step : Obls P ops Q a R G 0 ops.toList)
    (fin : ∀ a' w', (∀ i t, i < ops.size → dstOf ops i = some t → G i w' (a'.tmps.getD t undef)) → a'.defers = a.defers → a'.tmps.size = a.tmps.size → (∀ t, (∀ i, dstOf ops i ≠ some t) → a'.tmps.getD t undef = a.tmps.getD t undef) → R w' → Q .normal a' w') :
    (Code.region id ops true).wp P Q a w := by
  refine wp_region_any hmix (inv_any hlow step fin ops.size (Array.replicate ops.size false) a w.drew ?_ ?_)
  · refine ⟨by simp, rfl, rfl, fun _ _ => rfl, fun i t hl _ => ?_, h0⟩
    exfalso
    by_cases hi : i < ops.size <;> simp [hi] at hl
  · unfold left
    refine Nat.le_trans (List.length_filter_le _ _) ?_
    simp
end
end Go.Proofs.Ytidmcccbblmmeaa
