/-
  The plain text of a value, and its text over lines.
-/
import Derived.Test.YtkenananejgcpaaGreatDoorJPr6
namespace Go.Proofs.YtkenananejgcpaaGreatDoor.Jsn
open Go.RowKit Txt
/-- What stands in an array or an object, each with what is written ahead of it. -/
def ents (ln : Bool) (v : V) : List (List UInt8 × V) :=
  if v.kind = 5 then v.list.map (fun x => ([], x)) else if v.kind = 6 then v.mem.map (fun m => (quote m.name ++ [58] ++ if ln then [32] else [], m.val)) else []
def bodyT (ln : Bool) (d : Nat) (cl : UInt8) : Bool → List (List UInt8) → List UInt8
  | first, [] => (if first then [] else nl ln d) ++ [cl]
  | first, e :: es => (if first then [] else [44]) ++ nl ln (d + 1) ++ e ++ bodyT ln d cl false es
def clo (v : V) : UInt8 := if v.kind = 5 then 93 else 125
theorem ents_snd (ln : Bool) (v : V) : (ents ln v).map Prod.snd = v.kids false := by
  unfold ents V.kids
  by_cases h5 : v.kind = 5
  · simp [h5, Function.comp_def]
  · by_cases h6 : v.kind = 6
    · simp [h6, Function.comp_def]
    · simp [h5, h6]
theorem ents_mem {ln : Bool} {v : V} {e : List UInt8 × V} (h : e ∈ ents ln v) : e.2 ∈ v.kids false := by rw [← ents_snd ln v]; exact List.mem_map.2 ⟨e, h, rfl⟩
/-- The text of a value with d open around it. -/
def V.txt (ln : Bool) (d : Nat) (v : V) : List UInt8 :=
  beg v ++ if v.kind = 5 ∨ v.kind = 6 then bodyT ln d (clo v) true ((ents ln v).attach.map fun e => e.1.1 ++ e.1.2.txt ln (d + 1)) else []
termination_by v.size
decreasing_by exact V.mem_kids (ents_mem e.2)
def rend (ln : Bool) (d : Nat) (v : V) : List (List UInt8) := (ents ln v).map fun e => e.1 ++ e.2.txt ln (d + 1)
theorem V.txt_eq (ln : Bool) (d : Nat) (v : V) : v.txt ln d = beg v ++ if v.kind = 5 ∨ v.kind = 6 then bodyT ln d (clo v) true (rend ln d v) else [] := by
  rw [V.txt]
  unfold rend
  congr 3
  exact List.attach_map_val (f := fun e : List UInt8 × V => e.1 ++ e.2.txt ln (d + 1))
/-- What is still to be written of what is open, from the outermost on. -/
def restR (ln : Bool) : Nat → List (It × V) → List UInt8
  | _, [] => []
  | d, s :: ss => restR ln (d + 1) ss ++ bodyT ln d (clo s.2) (s.1.2 == 0) ((rend ln d s.2).drop s.1.2)
theorem restR_snoc (ln : Bool) (gs : List (It × V)) (s : It × V) : ∀ d, restR ln d (gs ++ [s]) = bodyT ln (d + gs.length) (clo s.2) (s.1.2 == 0) ((rend ln (d + gs.length) s.2).drop s.1.2) ++ restR ln d gs := by
  induction gs with
  | nil => intro d; simp [restR]
  | cons g gs ih =>
    intro d
    simp only [List.cons_append, restR, ih (d + 1), List.length_cons]
    rw [show d + 1 + gs.length = d + (gs.length + 1) by omega, List.append_assoc]
/-- What is left of what is open. -/
def remS (ln : Bool) (s : It × V) : Nat := (((ents ln s.2).drop s.1.2).map (fun e => e.2.size)).sum
def remG (ln : Bool) (gs : List (It × V)) : Nat := (gs.map (remS ln)).sum
theorem remG_snoc (ln : Bool) (gs : List (It × V)) (s : It × V) : remG ln (gs ++ [s]) = remG ln gs + remS ln s := by simp [remG]
/-- What is open is good. -/
structure Fr (W0 : World) (T : V) (ln : Bool) (s : It × V) : Prop where
  reads : Reads W0 s.1.1 s.2
  kind : s.2.kind = 5 ∨ s.2.kind = 6
  right : s.2.right = true
  tame : s.2.tame
  size : s.2.size ≤ T.size
  done : s.1.2 ≤ (ents ln s.2).length
theorem foreign_of {v : V} (h : v.right = true) : foreign v = false := by
  rw [V.right_eq, Bool.and_eq_true] at h
  have := h.1
  unfold rightSelf at this
  by_cases hf : foreign v = true
  · rw [if_pos hf] at this; cases this
  · simpa using hf
theorem no_mem {v : V} (h : v.right = true) (h5 : v.kind = 5) : v.mem = [] := by
  have := foreign_of h
  unfold foreign at this
  rw [h5] at this
  simp at this
  exact this.2
theorem no_list {v : V} (h : v.right = true) (h6 : v.kind = 6) : v.list = [] := by
  have := foreign_of h
  unfold foreign at this
  rw [h6] at this
  simp at this
  exact this.2
theorem right_kid {v x : V} (h : v.right = true) (hx : x ∈ v.kids false) : x.right = true := by
  rw [V.right_eq, Bool.and_eq_true, List.all_eq_true] at h
  exact h.2 x hx
theorem ents_len {v : V} (ln : Bool) (h : v.right = true) (hk : v.kind = 5 ∨ v.kind = 6) : (ents ln v).length = v.list.length + v.mem.length := by
  unfold ents
  rcases hk with hk | hk
  · rw [if_pos hk, no_mem h hk]; simp
  · rw [if_neg (by omega), if_pos hk, no_list h hk]; simp
theorem ents_sum (ln : Bool) (v : V) : ((ents ln v).map (fun e => e.2.size)).sum + 1 ≤ v.size := by
  have := v.kids_size false
  rw [← ents_snd ln v, List.map_map] at this
  exact this
/-- A child is begun. -/
theorem child {W0 : World} {T : V} {ln : Bool} {gs : List (It × V)} {P : Addr} {i : Nat} {v : V} {pre : List UInt8} {x : V} {l : List UInt8} {Q : Addr} (hf : Fr W0 T ln ((P, i), v)) (he : (ents ln v)[i]? = some (pre, x)) (hr : Reads W0 Q x) :
    Fr W0 T ln ((P, i + 1), v) ∧ x.right = true ∧ x.tame ∧ x.size ≤ T.size ∧ (x.kind = 5 ∨ x.kind = 6 → Fr W0 T ln ((Q, 0), x)) ∧
    l ++ restR ln 0 (gs ++ [((P, i), v)]) = l ++ ((if i = 0 then [] else [44]) ++ nl ln (gs.length + 1) ++ pre ++ beg x) ++ restR ln 0 (if x.kind = 5 ∨ x.kind = 6 then gs ++ [((P, i + 1), v)] ++ [((Q, 0), x)] else gs ++ [((P, i + 1), v)]) ∧
    (if x.kind = 5 ∨ x.kind = 6 then gs ++ [((P, i + 1), v)] ++ [((Q, 0), x)] else gs ++ [((P, i + 1), v)]).length + remG ln (if x.kind = 5 ∨ x.kind = 6 then gs ++ [((P, i + 1), v)] ++ [((Q, 0), x)] else gs ++ [((P, i + 1), v)]) ≤ (gs ++ [((P, i), v)]).length + remG ln (gs ++ [((P, i), v)]) ∧
    (if x.kind = 5 ∨ x.kind = 6 then gs ++ [((P, i + 1), v)] ++ [((Q, 0), x)] else gs ++ [((P, i + 1), v)]).length + 2 * remG ln (if x.kind = 5 ∨ x.kind = 6 then gs ++ [((P, i + 1), v)] ++ [((Q, 0), x)] else gs ++ [((P, i + 1), v)]) < (gs ++ [((P, i), v)]).length + 2 * remG ln (gs ++ [((P, i), v)]) := by
  have hi : i < (ents ln v).length := (List.getElem?_eq_some_iff.1 he).1
  have hm : (pre, x) ∈ ents ln v := List.mem_of_getElem? he
  have hk := ents_mem hm
  have hdrop : (ents ln v).drop i = (pre, x) :: (ents ln v).drop (i + 1) := by
    rw [List.getElem?_eq_getElem hi, Option.some.injEq] at he
    rw [← he]; exact List.drop_eq_getElem_cons hi
  have hrd : ∀ d, (rend ln d v).drop i = (pre ++ x.txt ln (d + 1)) :: (rend ln d v).drop (i + 1) := fun d => by
    unfold rend
    rw [← List.map_drop, hdrop, List.map_cons, List.map_drop]
  have hxs : x.size < v.size := V.mem_kids hk
  have hrem : remS ln ((P, i), v) = x.size + remS ln ((P, i + 1), v) := by
    unfold remS
    rw [hdrop]; simp
  have hxr := right_kid hf.right hk
  have hxt := hf.tame.kid false hk
  have hsz := hf.size
  have hes := ents_sum ln x
  have hx0 : remS ln ((Q, 0), x) + 1 ≤ x.size := by unfold remS; simpa using hes
  refine ⟨⟨hf.reads, hf.kind, hf.right, hf.tame, hf.size, by show i + 1 ≤ (ents ln v).length; omega⟩, hxr, hxt, by simp only at hsz; omega, fun hx => ⟨hr, hx, hxr, hxt, by show x.size ≤ _; simp only at hsz; omega, Nat.zero_le _⟩, ?_, ?_, ?_⟩
  · rw [restR_snoc]
    simp only [Nat.zero_add]
    rw [hrd, bodyT, x.txt_eq]
    by_cases hx : x.kind = 5 ∨ x.kind = 6
    · rw [if_pos hx, if_pos hx, restR_snoc, restR_snoc]
      simp only [Nat.zero_add, List.length_append, List.length_cons, List.length_nil, List.drop_zero]
      have : (i + 1 == 0) = false := by simp
      rw [this]
      by_cases h0 : i = 0 <;> simp [h0]
    · rw [if_neg hx, if_neg hx, restR_snoc]
      simp only [Nat.zero_add]
      have : (i + 1 == 0) = false := by simp
      rw [this]
      by_cases h0 : i = 0 <;> simp [h0]
  · by_cases hx : x.kind = 5 ∨ x.kind = 6
    · rw [if_pos hx, remG_snoc, remG_snoc, remG_snoc, hrem]
      simp only [List.length_append, List.length_cons, List.length_nil]
      omega
    · rw [if_neg hx, remG_snoc, remG_snoc, hrem]
      simp only [List.length_append, List.length_cons, List.length_nil]
      omega
  · have := x.size_pos
    by_cases hx : x.kind = 5 ∨ x.kind = 6
    · rw [if_pos hx, remG_snoc, remG_snoc, remG_snoc, hrem]
      simp only [List.length_append, List.length_cons, List.length_nil]
      omega
    · rw [if_neg hx, remG_snoc, remG_snoc, hrem]
      simp only [List.length_append, List.length_cons, List.length_nil]
      omega
end Go.Proofs.YtkenananejgcpaaGreatDoor.Jsn
