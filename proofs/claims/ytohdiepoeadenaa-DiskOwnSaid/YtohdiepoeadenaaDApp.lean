/-
  Bytes appended onto a row of one's own; rows of bytes whose content nobody asks for.
-/
import Derived.Test.YtohdiepoeadenaaDA
import Derived.Laws.AppendOwnNone
namespace Go.Proofs.Ytohdiepoeadenaa.Dsk
open Go.RowKit
/-- A row of one's own holds these bytes. -/
abbrev Own (w : World) (base : Nat) (v : Value) (l : List UInt8) : Prop := w.ownsRow base 5 1 v l.length (bc l)
/-- append(x, y...) onto a row of the call's own, y nil, empty or not. -/
theorem wpList_append_bytes {w : World} {ops : Array Oper} {rest : List Oper} {o : Oper} {a : Act} {Q : Exit → Act → World → Prop} (hgd : o.guard = none) (s x : Operand)
    (ho : o.op = .call { callee := .builtin .append, args := #[s, x], argTypes := #[30, 30] }) (base : Nat) (v : Value) (l : List UInt8) (hs : a.eval s = v) (hown : Own w base v l)
    (A : Option Addr) (c : Nat) (l' : List UInt8) (hx : a.eval x = .slice A l'.length c) (hc : A = none → c = 0) (S : Nat → Prop) (hr : Rd w S A l') (hb : l.length + l'.length ≤ 1000000) (hbase : base ≤ w.heap.size)
    (h : ∀ v' w', Own w' base v' (l ++ l') → w.grownBy w' v.ownBlock → wpList Try.prog ops Q rest (a.put o.dst v') w') : wpList Try.prog ops Q (o :: rest) a w := by
  obtain ⟨i0, hi0, hz0, hz1, hz2⟩ := info_parts info5
  cases A with
  | none =>
    have hl : l' = [] := by
      cases l' with
      | nil => rfl
      | cons y r => obtain ⟨_, e, _⟩ := hr (by simp); cases e
    subst hl
    obtain rfl := hc rfl
    refine wpList_append_own_none hgd s x 30 ho base 5 i0 1 Try.underlying30 hi0 v l.length _ hs hown hx (h v w ?_ (World.grownBy.refl w _))
    simpa using hown
  | some ad =>
    refine wpList_append_own w hgd s x 30 ho base 5 i0 _ 1 1 Try.underlying30 hi0 hz0 hz1 hz2 rfl (by decide) v l.length _ hs hown ad l'.length c (bc l') hx (by rw [bc_length]; omega) (fun j u hu => ?_) (bc_one _) (by unfold maxLen; omega) (by omega) hbase ?_
    · have hj : j < (bc l').length := (List.getElem?_eq_some_iff.1 hu).1
      rw [bc_length] at hj
      obtain ⟨ad', e, _, _, h3⟩ := hr (by omega)
      injection e with e
      subst e
      exact h3 j u hu
    · intro v' w' h1 h2 _
      rw [← bc_append] at h1
      rw [← List.length_append] at h1
      exact h v' w' h1 h2
/-- An empty row that the call made. -/
theorem own_empty (w : World) : Own (w.alloc (.cells #[] 5)) w.heap.size (.slice (some ⟨w.heap.size, 0, none⟩) 0 0) [] :=
  ⟨rfl, .inr ⟨w.heap.size, 0, #[], rfl, Nat.le_refl _, heap_alloc_new w _, Nat.le_refl _, by unfold maxLen; omega, rfl, rfl⟩⟩
/-- A row of bytes, whatever they are: at least n of them, none frozen. -/
def LRow (w : World) (p n : Nat) : Prop := ∃ cs : Array Value, w.heap[p]? = some (.cells cs 5 (0, 0)) ∧ n ≤ cs.size ∧ ∀ k, k < n → ∃ x : UInt8, cs[k]? = some (.int .u8 (x.toNat : Nat))
section
variable {w w' : World} {p n : Nat}
theorem LRow.lt (h : LRow w p n) : p < w.heap.size := by
  obtain ⟨cs, hg, _⟩ := h
  exact (Array.getElem?_eq_some_iff.1 hg).1
theorem LRow.cell (h : LRow w p n) (k : Nat) (hk : k < n) : ∃ x : UInt8, w.cell? ⟨p, k, none⟩ = some (.int .u8 (x.toNat : Nat)) := by
  obtain ⟨cs, hg, _, hc⟩ := h
  obtain ⟨x, hx⟩ := hc k hk
  exact ⟨x, (cell_of_row w p k cs _ _ hg).trans hx⟩
theorem LRow.frozen (h : LRow w p n) (k : Nat) : w.frozen? ⟨p, k, none⟩ = false := by
  obtain ⟨cs, hg, _⟩ := h
  simp [World.frozen?, hg]
theorem LRow.put (h : LRow w p n) (i : Nat) (x : UInt8) : LRow (w.setCell ⟨p, i, none⟩ (.int .u8 (x.toNat : Nat))) p n := by
  obtain ⟨cs, hg, hs, hc⟩ := h
  refine ⟨cs.setIfInBounds i (.int .u8 (x.toNat : Nat)), by simp [World.setCell, Array.getElem?_modify, hg], by simpa using hs, fun k hk => ?_⟩
  by_cases hik : i = k
  · subst hik
    exact ⟨x, by rw [Array.getElem?_setIfInBounds_self_of_lt (by omega)]⟩
  · obtain ⟨y, hy⟩ := hc k hk
    exact ⟨y, by rw [Array.getElem?_setIfInBounds_ne hik]; exact hy⟩
theorem LRow.of_blk {l : List UInt8} (h : Blk w p 5 (bc l)) (hn : n ≤ l.length) : LRow w p n := by
  refine ⟨_, h, by simpa [bc_length] using hn, fun k hk => ?_⟩
  exact ⟨l.getD k 0, by simpa using bc_get l k (by omega)⟩
theorem LRow.other (h : LRow w p n) (q i : Nat) (u : Value) (hq : p ≠ q) : LRow (w.setCell ⟨q, i, none⟩ u) p n := by
  obtain ⟨cs, hg, r⟩ := h
  exact ⟨cs, (Below.heap_setCell w ⟨q, i, none⟩ u p hq).trans hg, r⟩
theorem LRow.below {B : Nat} (h : LRow w p n) (hb : Below B w w') (hp : p < B) : LRow w' p n := by
  obtain ⟨cs, hg, r⟩ := h
  exact ⟨cs, (hb.block p hp).trans hg, r⟩
theorem LRow.but {d g : Nat} (h : LRow w p n) (hb : But d g w w') (h1 : p ≠ d) (h2 : p ≠ g) : LRow w' p n := by
  have hl := h.lt
  obtain ⟨cs, hg, r⟩ := h
  exact ⟨cs, (hb.block p hl h1 h2).trans hg, r⟩
end
/-- What a row of one's own is: its address, its bytes, its cells. -/
theorem own_form {w : World} {base : Nat} {v : Value} {l : List UInt8} (h : Own w base v l) :
    ∃ A c, v = .slice A l.length c ∧ l.length ≤ c ∧ ∃ p, base ≤ p ∧ (0 < l.length → A = some ⟨p, 0, none⟩ ∧ LRow w p l.length) ∧ Rd w (· = p) A l := by
  rcases h.2 with ⟨rfl, h0⟩ | ⟨p, cap, cur, rfl, hb, hg, hc, hm, hs, ht⟩
  · have hl : l = [] := List.eq_nil_of_length_eq_zero h0
    subst hl
    exact ⟨none, 0, rfl, Nat.le_refl _, base, Nat.le_refl _, fun h => absurd h (by decide), Rd.nil _ _ _⟩
  · have hcell : ∀ j u, (bc l)[j]? = some u → cur[j]? = some u := fun j u hu => by
      have : cur.toList.take (l.length * 1) = bc l := ht
      rw [← this, List.getElem?_take] at hu
      split at hu
      · simpa using hu
      · cases hu
    refine ⟨_, cap, rfl, hc, p, hb, fun _ => ⟨rfl, cur, hg, by simp at hs; omega, fun k hk => ⟨l.getD k 0, hcell _ _ (bc_get l k hk)⟩⟩, fun _ => ⟨_, rfl, rfl, (Array.getElem?_eq_some_iff.1 hg).1, fun j u hu => ?_⟩⟩
    rw [Addr.add_mid, Nat.zero_add, cell_of_row w p j cur _ _ hg]
    exact hcell j u hu
end Go.Proofs.Ytohdiepoeadenaa.Dsk
