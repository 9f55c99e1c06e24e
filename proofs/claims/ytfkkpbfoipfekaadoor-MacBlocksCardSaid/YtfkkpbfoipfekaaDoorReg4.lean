/-
  Behind a region that draws its order the frame is the one ahead of it with the region's slots written; and a test that two equal strings differ.
-/
import Derived.Test.YtfkkpbfoipfekaaDoorBytes
namespace Go.Proofs.YtfkkpbfoipfekaaDoor
open Go.RowKit
theorem puts_len (f : Tmp → Value) : ∀ (ds : List Tmp) (a : Act), (ds.foldl (fun b t => b.put (some t) (f t)) a).tmps.size = a.tmps.size ∧ (ds.foldl (fun b t => b.put (some t) (f t)) a).defers = a.defers
  | [], _ => ⟨rfl, rfl⟩
  | d :: r, a => by
    obtain ⟨h1, h2⟩ := puts_len f r (a.put (some d) (f d))
    exact ⟨by rw [List.foldl_cons, h1]; simp [Act.put], by rw [List.foldl_cons, h2]; rfl⟩
theorem puts_at (f : Tmp → Value) (t : Tmp) : ∀ (ds : List Tmp) (a : Act), t < a.tmps.size → (ds.foldl (fun b t => b.put (some t) (f t)) a).tmps.getD t undef = if t ∈ ds then f t else a.tmps.getD t undef
  | [], a, _ => by simp
  | d :: r, a, ht => by
    rw [List.foldl_cons, puts_at f t r (a.put (some d) (f d)) (by simpa [Act.put] using ht)]
    by_cases hr : t ∈ r
    · rw [if_pos hr, if_pos (List.mem_cons_of_mem _ hr)]
    · rw [if_neg hr]
      by_cases hd : d = t
      · subst hd
        rw [getD_put a d d _ ht, if_pos rfl, if_pos List.mem_cons_self]
      · by_cases hdl : d < a.tmps.size
        · rw [getD_put a d t _ hdl, if_neg hd, if_neg (by simp [hr]; exact fun e => hd e.symm)]
        · rw [if_neg (by simp [hr]; exact fun e => hd e.symm)]
          simp only [Act.put, Array.getD_eq_getD_getElem?]
          rw [Array.getElem?_setIfInBounds_ne hd]
theorem act_eq {ops : Array Oper} {a a' : Act} (ds : List Tmp) (hds : (List.range ops.size).all (fun i => ((dstOf ops i).map fun t => ds.contains t).getD true) = true) (hdf : a'.defers = a.defers) (hsz : a'.tmps.size = a.tmps.size)
    (hold : ∀ t, (∀ i, dstOf ops i ≠ some t) → a'.tmps.getD t undef = a.tmps.getD t undef) : a' = ds.foldl (fun b t => b.put (some t) (a'.tmps.getD t undef)) a := by
  obtain ⟨h1, h2⟩ := puts_len (fun t => a'.tmps.getD t undef) ds a
  have ht : a'.tmps = (ds.foldl (fun b t => b.put (some t) (a'.tmps.getD t undef)) a).tmps := by
    apply Array.ext
    · rw [h1, hsz]
    · intro t l1 l2
      have e := puts_at (fun t => a'.tmps.getD t undef) t ds a (by rw [← hsz]; exact l1)
      have e1 : a'.tmps.getD t undef = a'.tmps[t] := by simp [Array.getD_eq_getD_getElem?, l1]
      have e2 : ∀ b : Act, ∀ l : t < b.tmps.size, b.tmps.getD t undef = b.tmps[t] := fun b l => by simp [Array.getD_eq_getD_getElem?, l]
      rw [← e1, ← e2 _ l2, e]
      by_cases hm : t ∈ ds
      · rw [if_pos hm]
      · rw [if_neg hm]
        refine hold t fun i hi => hm ?_
        rw [List.all_eq_true] at hds
        have hlt : i < ops.size := by
          unfold dstOf at hi
          cases ho : ops[i]? with
          | none => simp [ho] at hi
          | some o => exact (Array.getElem?_eq_some_iff.1 ho).1
        have := hds i (List.mem_range.2 hlt)
        simpa [hi] using this
  cases a'
  simp only at ht h2 hdf ⊢
  rw [Act.mk.injEq]
  exact ⟨ht, by rw [h2]; exact hdf⟩
theorem neq_str (s : ByteArray) (w : World) : (binOp .neq 9 (.string s) (.string s)).run Tryd.prog w = .ok (.bool false) w := by
  simp [go_sem]
theorem guard_neq (x y : Operand) (s t : ByteArray) (w : World) : (eqGuard .neq 9 x y (.string s) (.string t)).run Tryd.prog w = .ok () w := by
  simp [eqGuard]
theorem ob_neq {ops : Array Oper} {a0 : Act} {k : Nat → Kd} {w0 : World} {Q : Exit → Act → World → Prop} {o : Oper} {i : Nat} (A : At ops a0 k i o) (j j' : Nat) (t t' : Tmp) (l : List Nat) (hop : o.op = .binOp .neq 9 (.tmp t) (.tmp t') 9) (hj : depB o j = true) (ht : dstOf ops j = some t) (hj' : depB o j' = true) (ht' : dstOf ops j' = some t')
    (hkj : k j = .str l) (hkj' : k j' = .str l) (hki : k i = .val (.bool false)) : Obl Tryd.prog ops Q a0 (Rw w0) (fun i => (k i).is) i o :=
  fun listed a w h hd K hK => by
    have h1 := h.opd hd hj ht
    have h2 := h.opd hd hj' ht'
    rw [hkj] at h1
    rw [hkj'] at h2
    exact o_binOp _ _ _ _ _ hop h1 h2 (guard_neq _ _ _ _ _) (neq_str _ _) (A.hg.wanted h hd) (hK _ _ (A.fin h (Below.refl _ _) (by rw [hki]; rfl)))
theorem Hst.keepRow {w w' : World} {g n : Nat} {m : List Nat} {row : Option Nat} (h : Hst w g m n) (hg : w.grownBy w' row) (hne : row ≠ some g) : Hst w' g m n := by
  obtain ⟨blk, hT, hB⟩ := h
  exact ⟨blk, hT, hB.grown hg (fun e => hne e.symm)⟩
theorem own_row {w : World} {base : Nat} {v : Value} {n : Nat} {xs : List Value} (h : w.ownsRow base 5 1 v n xs) : ∀ p, v.ownBlock = some p → base ≤ p := by
  intro p hp
  rcases h.2 with ⟨rfl, _⟩ | ⟨q, cap, cur, rfl, hb, _⟩
  · simp [Value.ownBlock] at hp
  · simp only [Value.ownBlock, Option.some.injEq] at hp; omega
end Go.Proofs.YtfkkpbfoipfekaaDoor
