/-
  Bytes that the statements append, cut and turn: laws for the walks of the statements.
-/
import Derived.Test.YtaoaegkfejlgkaaC4
import Derived.Laws.AppendOwnNone
namespace Go.Proofs.Ytaoaegkfejlgkaa
open Go.RowKit
theorem Try.info5 : (Try.prog.info? 5).map (fun i => (i.zero, i.size, i.bytes)) = some (some (.int .u8 0), 1, 1) := by kernel_rfl
/-- append(x, y...) onto a row of the call's own, y nil, empty or not. -/
theorem wpList_append_bytes {w : World} {ops : Array Oper} {rest : List Oper} {o : Oper} {a : Act} {Q : Exit → Act → World → Prop} (hgd : o.guard = none) (s x : Operand)
    (ho : o.op = .call { callee := .builtin .append, args := #[s, x], argTypes := #[33, 33] }) (base : Nat) (v : Value) (l : List Nat) (hs : a.eval s = v) (hown : w.ownsRow base 5 1 v l.length (vals .u8 l))
    (A : Option Addr) (c : Nat) (l' : List Nat) (hx : a.eval x = .slice A l'.length c) (hc : A = none → c = 0) (hr : RdB w w.heap.size A l') (hb : l.length + l'.length ≤ 1000000) (hbase : base ≤ w.heap.size)
    (h : ∀ v' w', w'.ownsRow base 5 1 v' (l ++ l').length (vals .u8 (l ++ l')) → w.grownBy w' v.ownBlock → (v'.ownBlock = v.ownBlock ∨ True) → wpList Try.prog ops Q rest (a.put o.dst v') w') : wpList Try.prog ops Q (o :: rest) a w := by
  obtain ⟨i0, hi0, hz0, hz1, hz2⟩ := info_parts Try.info5
  cases A with
  | none =>
    have hl : l' = [] := by
      cases l' with
      | nil => rfl
      | cons y r => obtain ⟨_, e, _⟩ := hr (by simp); cases e
    subst hl
    obtain rfl := hc rfl
    refine wpList_append_own_none hgd s x 33 ho base 5 i0 1 Try.underlying33 hi0 v l.length _ hs hown hx (h v w ?_ (World.grownBy.refl w _) (.inr trivial))
    simpa using hown
  | some ad =>
    refine wpList_append_own w hgd s x 33 ho base 5 i0 _ 1 1 Try.underlying33 hi0 hz0 hz1 hz2 rfl (by decide) v l.length _ hs hown ad l'.length c (vals .u8 l') hx (by rw [vals_length]; omega) (fun j u hu => ?_) (vals_one _ _) (by unfold maxLen; omega) (by omega) hbase ?_
    · have hj : j < (vals .u8 l').length := (List.getElem?_eq_some_iff.1 hu).1
      rw [vals_length] at hj
      obtain ⟨ad', e, _, h3⟩ := hr (by omega)
      injection e with e
      subst e
      exact h3 j u hu
    · intro v' w' h1 h2 _
      rw [← vals_append] at h1
      rw [← List.length_append] at h1
      exact h v' w' h1 h2 (.inr trivial)
/-- A row of one's own, as a slice that reads as its bytes. -/
theorem own_form {w : World} {base : Nat} {v : Value} {l : List Nat} (h : w.ownsRow base 5 1 v l.length (vals .u8 l)) :
    ∃ A c, v = .slice A l.length c ∧ l.length ≤ c ∧ c ≤ maxLen ∧ (A = none → c = 0) ∧ RdB w w.heap.size A l ∧ (∀ ad, A = some ad → ∃ p, ad = ⟨p, 0, none⟩ ∧ base ≤ p ∧ p < w.heap.size) := by
  have hcells := fun p => World.ownsRow.cells (g := p) h
  rcases h.2 with ⟨rfl, h0⟩ | ⟨p, cap, cur, rfl, hb, hg, hc, hm, hs, ht⟩
  · exact ⟨none, 0, by rw [h0], by omega, Nat.zero_le _, (fun _ => rfl), (fun hl => by omega), (fun ad e => by cases e)⟩
  · have hlt : p < w.heap.size := (show Blk w p 5 cur from hg).lt
    exact ⟨some ⟨p, 0, none⟩, cap, rfl, hc, hm, (fun e => by cases e), (fun _ => ⟨_, rfl, hlt, hcells p rfl⟩), (fun ad e => by injection e with e; exact ⟨p, e.symm, hb, hlt⟩)⟩
theorem vals_set (k : IntKind) (l : List Nat) (i v : Nat) : (vals k l).set i (.int k (v : Int)) = vals k (l.set i v) := by simp [vals, List.map_set]
theorem own_grown {w w' : World} {base g : Nat} {e : TypeId} {size n : Nat} {v : Value} {xs : List Value} (h : w.ownsRow base e size v n xs) (hg : w.grownBy w' (some g)) (hlt : g < base) : w'.ownsRow base e size v n xs := by
  obtain ⟨h1, h2⟩ := h
  refine ⟨h1, ?_⟩
  rcases h2 with h2 | ⟨p, cap, cur, hv, hp, hh, hr⟩
  · exact .inl h2
  · exact .inr ⟨p, cap, cur, hv, hp, (hg.block p (show Blk w p e cur from hh).lt (by intro e; injection e with e; omega)).trans hh, hr⟩
theorem own_slice {w : World} {base n : Nat} {v : Value} {xs : List Value} (h : w.ownsRow base 5 1 v (n + 1) xs) : ∃ p cap, v = .slice (some ⟨p, 0, none⟩) (n + 1) cap ∧ base ≤ p := by
  rcases h.2 with ⟨_, h0⟩ | ⟨p, cap, cur, hv, hp, _⟩
  · omega
  · exact ⟨p, cap, hv, hp⟩
/-- The empty slice that a literal makes. -/
theorem empty_own (w : World) : (w.alloc (.cells #[] 5)).ownsRow w.heap.size 5 1 (.slice (some ⟨w.heap.size, 0, none⟩) 0 0) ([] : List Nat).length (vals .u8 []) :=
  ⟨rfl, .inr ⟨w.heap.size, 0, #[], rfl, Nat.le_refl _, heap_alloc_new w _, Nat.le_refl _, Nat.zero_le _, rfl, rfl⟩⟩
theorem own_below {w w' : World} {base : Nat} {e : TypeId} {size n : Nat} {v : Value} {xs : List Value} (h : w.ownsRow base e size v n xs) (hb : Below w.heap.size w w') : w'.ownsRow base e size v n xs := by
  obtain ⟨h1, h2⟩ := h
  refine ⟨h1, ?_⟩
  rcases h2 with h2 | ⟨g, cap, cur, hv, hg, hh, hr⟩
  · exact .inl h2
  · exact .inr ⟨g, cap, cur, hv, hg, (hb.block g (show Blk w g e cur from hh).lt).trans hh, hr⟩
theorem own_row {w : World} {base : Nat} {v : Value} {n : Nat} {xs : List Value} (h : w.ownsRow base 5 1 v n xs) : ∀ p, v.ownBlock = some p → base ≤ p := by
  intro p hp
  rcases h.2 with ⟨rfl, _⟩ | ⟨q, cap, cur, rfl, hb, _⟩
  · simp [Value.ownBlock] at hp
  · simp only [Value.ownBlock, Option.some.injEq] at hp; omega
end Go.Proofs.Ytaoaegkfejlgkaa
