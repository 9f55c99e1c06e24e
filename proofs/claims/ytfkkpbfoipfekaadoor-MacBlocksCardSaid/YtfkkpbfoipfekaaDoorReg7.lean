/-
  More operations of a region that draws its order: a new hash, and a list of one part that is nothing; and lists of parts with parts of nothing among them.
-/
import Derived.Test.YtfkkpbfoipfekaaDoorReg6
namespace Go.Proofs.YtfkkpbfoipfekaaDoor
open Go.RowKit
section
variable {ops : Array Oper} {a0 : Act} {k : Nat → Kd} {w0 : World} {Q : Exit → Act → World → Prop} {o : Oper} {i : Nat}
theorem ob_new (A : At ops a0 k i o) (ts : Array TypeId) (hop : o.op = .call { callee := .value (.func 19), args := #[], argTypes := ts }) (hki : k i = .hash []) (hC : Cx w0) : Obl Tryd.prog ops Q a0 (Rw w0) (fun i => (k i).is) i o :=
  fun listed a w h hd K hK => by
    have hC' := hC.below h.world
    refine o_call 19 _ ts hop #[] (by simp) (enter12 _ _) (A.hg.wanted h hd) ((new_any w hC'.1).mono ?_)
    rintro e w' ⟨rfl, hw⟩
    refine ⟨_, rfl, hK _ _ (A.fin h ?_ ?_)⟩
    · rw [← hw]; exact (Below.refl _ _).alloc (Nat.le_refl _) _
    · rw [hki]
      exact ⟨_, rfl, hC'.2.2, by rw [← hw]; exact new_hst w⟩
theorem ob_build0 (A : At ops a0 k i o) (hop : o.op = .buildSlice 37 1 #[(0, .const (.slice none 0 0))]) (hki : k i = .parts [[]]) : Obl Tryd.prog ops Q a0 (Rw w0) (fun i => (k i).is) i o :=
  fun _ _ w h hd K hK => by
    refine o_buildSlice1 _ _ hop rfl (build_part none 0 0 w) (A.hg.wanted h hd) (hK _ _ (A.fin h ((Below.refl _ _).alloc (Nat.le_refl _) _) ?_))
    rw [hki]
    refine ⟨fun p hp => by rw [List.mem_singleton] at hp; subst hp; exact fun x hx => (by cases hx), _, 1, rfl, fun n hn => ?_⟩
    obtain rfl : n = 0 := by simpa using hn
    refine ⟨_, none, 0, rfl, by simp, ?_, Nat.le_refl _, fun hl => absurd hl (Nat.lt_irrefl 0)⟩
    rw [Addr.add_mid, (Blk.new w 22 #[.slice none 0 0]).cell]
    rfl
end
theorem parts_nil (w : World) : (Kd.parts []).is w (.slice none 0 0) := ⟨fun p hp => (by cases hp), none, 0, rfl, fun i hi => absurd hi (Nat.not_lt_zero i)⟩
/-- Each part with nothing ahead of it and behind it. -/
def wide (ps : List (List Nat)) : List (List Nat) := ps.flatMap fun p => [[], p, []]
theorem wide_length (ps : List (List Nat)) : (wide ps).length = 3 * ps.length := by
  induction ps with
  | nil => rfl
  | cons p r ih => simp only [wide, List.flatMap_cons, List.length_append, List.length_cons, List.length_nil] at ih ⊢; omega
theorem wide_flat (ps : List (List Nat)) : (wide ps).flatten = ps.flatten := by
  induction ps with
  | nil => rfl
  | cons p r ih => simp only [wide, List.flatMap_cons, List.flatten_append, List.flatten_cons] at ih ⊢; rw [ih]; simp
theorem wide_take (ps : List (List Nat)) (k : Nat) (hk : k < ps.length) : wide (ps.take (k + 1)) = wide (ps.take k) ++ [[], ps.getD k [], []] := by
  unfold wide
  rw [List.take_succ_eq_append_getElem hk, List.flatMap_append, List.flatMap_singleton, List.getD_eq_getElem?_getD, List.getElem?_eq_getElem hk]
  rfl
theorem wide_Bs {ps : List (List Nat)} (h : ∀ p ∈ ps, Sha.Bs p) : ∀ p ∈ wide ps, Sha.Bs p := by
  intro p hp
  simp only [wide, List.mem_flatMap, List.mem_cons, List.not_mem_nil, or_false] at hp
  obtain ⟨q, hq, hp⟩ := hp
  rcases hp with rfl | rfl | rfl
  · exact fun x hx => (by cases hx)
  · exact h _ hq
  · exact fun x hx => (by cases hx)
/-- The values that parts are told by, each readable in the world w. -/
def Told (w : World) : List Value → List (List Nat) → Prop
  | [], [] => True
  | v :: vs, l :: ls => (∃ A c, v = .slice A l.length c ∧ l.length ≤ c ∧ RdB w w.heap.size A l) ∧ Told w vs ls
  | _, _ => False
theorem Told.append {w : World} : ∀ {vs : List Value} {ls : List (List Nat)} {vs' : List Value} {ls' : List (List Nat)}, Told w vs ls → Told w vs' ls' → Told w (vs ++ vs') (ls ++ ls')
  | [], [], _, _, _, h => h
  | _ :: _, _ :: _, _, _, h, h' => ⟨h.1, Told.append h.2 h'⟩
  | [], _ :: _, _, _, h, _ => h.elim
  | _ :: _, [], _, _, h, _ => h.elim
theorem Told.at {w : World} : ∀ {vs : List Value} {ls : List (List Nat)}, Told w vs ls → ∀ i, i < ls.length → ∃ A c, vs[i]? = some (.slice A (ls.getD i []).length c) ∧ (ls.getD i []).length ≤ c ∧ RdB w w.heap.size A (ls.getD i [])
  | [], [], _, i, hi => absurd hi (Nat.not_lt_zero i)
  | v :: vs, l :: ls, h, 0, _ => by
    obtain ⟨⟨A, c, e, h1, h2⟩, _⟩ := h
    exact ⟨A, c, by rw [e]; rfl, h1, h2⟩
  | v :: vs, l :: ls, h, i + 1, hi => by
    obtain ⟨A, c, e, h1, h2⟩ := Told.at h.2 i (by simpa using hi)
    exact ⟨A, c, by simpa using e, by simpa using h1, by simpa using h2⟩
  | [], _ :: _, h, _, _ => h.elim
  | _ :: _, [], h, _, _ => h.elim
theorem nothing_rd (w : World) (A : Option Addr) : RdB w w.heap.size A [] := fun hl => absurd hl (Nat.lt_irrefl 0)
/-- Parts that lie in a row of one's own. -/
theorem parts_own {w w1 : World} {base : Nat} {v : Value} {xs : List Value} {ls : List (List Nat)} (hb : Below w.heap.size w w1) (h : w1.ownsRow base 22 1 v ls.length xs) (ht : Told w xs ls) : ∃ A c, v = .slice A ls.length c ∧ Parts w1 w1.heap.size A ls := by
  have hk := h
  rcases h.2 with ⟨rfl, h0⟩ | ⟨q, cap, cur, rfl, _, hq, _⟩
  · exact ⟨none, 0, by rw [h0], fun i hi => by omega⟩
  · refine ⟨some ⟨q, 0, none⟩, cap, rfl, fun i hi => ?_⟩
    obtain ⟨A, c, e, h1, h2⟩ := ht.at i hi
    refine ⟨_, A, c, rfl, (show Blk w1 q 22 cur from hq).lt, ?_, h1, (h2.below hb).more hb.size⟩
    rw [Addr.add_mid, Nat.zero_add, hk.cellAt i (by omega)]
    exact e
theorem Tryd.info22 : (Tryd.prog.info? 22).map (fun i => (i.zero, i.size, i.bytes)) = some (some (.slice none 0 0), 1, 24) := by kernel_rfl
end Go.Proofs.YtfkkpbfoipfekaaDoor
