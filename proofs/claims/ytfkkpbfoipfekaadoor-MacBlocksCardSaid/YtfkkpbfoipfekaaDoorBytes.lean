/-
  Bytes that the statements append, cut and turn: laws for the walks of the statements.
-/
import Derived.Test.YtfkkpbfoipfekaaDoorReg3
import Derived.Laws.AppendOwnNone
namespace Go.Proofs.YtfkkpbfoipfekaaDoor
open Go.RowKit
/-- append(x, y...) onto a row of the call's own, y nil, empty or not. -/
theorem wpList_append_bytes {w : World} {ops : Array Oper} {rest : List Oper} {o : Oper} {a : Act} {Q : Exit → Act → World → Prop} (hgd : o.guard = none) (s x : Operand)
    (ho : o.op = .call { callee := .builtin .append, args := #[s, x], argTypes := #[22, 22] }) (base : Nat) (v : Value) (l : List Nat) (hs : a.eval s = v) (hown : w.ownsRow base 5 1 v l.length (vals .u8 l))
    (A : Option Addr) (c : Nat) (l' : List Nat) (hx : a.eval x = .slice A l'.length c) (hc : A = none → c = 0) (hr : RdB w w.heap.size A l') (hb : l.length + l'.length ≤ 1000000) (hbase : base ≤ w.heap.size)
    (h : ∀ v' w', w'.ownsRow base 5 1 v' (l ++ l').length (vals .u8 (l ++ l')) → w.grownBy w' v.ownBlock → (v'.ownBlock = v.ownBlock ∨ True) → wpList Tryd.prog ops Q rest (a.put o.dst v') w') : wpList Tryd.prog ops Q (o :: rest) a w := by
  obtain ⟨i0, hi0, hz0, hz1, hz2⟩ := info_parts Tryd.info5
  cases A with
  | none =>
    have hl : l' = [] := by
      cases l' with
      | nil => rfl
      | cons y r => obtain ⟨_, e, _⟩ := hr (by simp); cases e
    subst hl
    obtain rfl := hc rfl
    refine wpList_append_own_none hgd s x 22 ho base 5 i0 1 Tryd.underlying22 hi0 v l.length _ hs hown hx (h v w ?_ (World.grownBy.refl w _) (.inr trivial))
    simpa using hown
  | some ad =>
    refine wpList_append_own w hgd s x 22 ho base 5 i0 _ 1 1 Tryd.underlying22 hi0 hz0 hz1 hz2 rfl (by decide) v l.length _ hs hown ad l'.length c (vals .u8 l') hx (by rw [vals_length]; omega) (fun j u hu => ?_) (vals_one _ _) (by unfold maxLen; omega) (by omega) hbase ?_
    · have hj : j < (vals .u8 l').length := (List.getElem?_eq_some_iff.1 hu).1
      rw [vals_length] at hj
      obtain ⟨ad', e, _, h3⟩ := hr (by omega)
      injection e with e
      subst e
      exact h3 j u hu
    · intro v' w' h1 h2 _
      rw [← vals_append] at h1
      rw [← List.length_append] at h1
      exact h v' w' h1 h2 (.inr trivial)
/-- A row of one's own, as a slice that reads as its bytes. -/
theorem own_form {w : World} {base : Nat} {v : Value} {l : List Nat} (h : w.ownsRow base 5 1 v l.length (vals .u8 l)) :
    ∃ A c, v = .slice A l.length c ∧ l.length ≤ c ∧ c ≤ maxLen ∧ (A = none → c = 0) ∧ RdB w w.heap.size A l ∧ (∀ ad, A = some ad → ∃ p, ad = ⟨p, 0, none⟩ ∧ base ≤ p ∧ p < w.heap.size) := by
  have hcells := fun p => World.ownsRow.cells (g := p) h
  rcases h.2 with ⟨rfl, h0⟩ | ⟨p, cap, cur, rfl, hb, hg, hc, hm, hs, ht⟩
  · exact ⟨none, 0, by rw [h0], by omega, Nat.zero_le _, (fun _ => rfl), (fun hl => by omega), (fun ad e => by cases e)⟩
  · have hlt : p < w.heap.size := (show Blk w p 5 cur from hg).lt
    exact ⟨some ⟨p, 0, none⟩, cap, rfl, hc, hm, (fun e => by cases e), (fun _ => ⟨_, rfl, hlt, hcells p rfl⟩), (fun ad e => by injection e with e; exact ⟨p, e.symm, hb, hlt⟩)⟩
theorem Hst.put {w : World} {g n p i : Nat} {m : List Nat} (h : Hst w g m n) (hne : g ≠ p) (u : Value) : Hst (w.setCell ⟨p, i, none⟩ u) g m n := by
  obtain ⟨blk, hT, hB⟩ := h
  exact ⟨blk, hT, hB.far hne u⟩
theorem vals_set (k : IntKind) (l : List Nat) (i v : Nat) : (vals k l).set i (.int k (v : Int)) = vals k (l.set i v) := by simp [vals, List.map_set]
theorem Bs_set {l : List Nat} (h : Sha.Bs l) (i v : Nat) (hv : v < 256) : Sha.Bs (l.set i v) := fun x hx => by
  rcases List.mem_or_eq_of_mem_set hx with h1 | h1
  · exact h x h1
  · omega
theorem own_grown {w w' : World} {base g : Nat} {e : TypeId} {size n : Nat} {v : Value} {xs : List Value} (h : w.ownsRow base e size v n xs) (hg : w.grownBy w' (some g)) (hlt : g < base) : w'.ownsRow base e size v n xs := by
  obtain ⟨h1, h2⟩ := h
  refine ⟨h1, ?_⟩
  rcases h2 with h2 | ⟨p, cap, cur, hv, hp, hh, hr⟩
  · exact .inl h2
  · exact .inr ⟨p, cap, cur, hv, hp, (hg.block p (show Blk w p e cur from hh).lt (by intro e; injection e with e; omega)).trans hh, hr⟩
theorem own_slice {w : World} {base n : Nat} {v : Value} {xs : List Value} (h : w.ownsRow base 5 1 v (n + 1) xs) : ∃ p cap, v = .slice (some ⟨p, 0, none⟩) (n + 1) cap ∧ base ≤ p := by
  rcases h.2 with ⟨_, h0⟩ | ⟨p, cap, cur, hv, hp, _⟩
  · omega
  · exact ⟨p, cap, hv, hp⟩
/-- The empty slice that a literal makes. -/
theorem empty_own (w : World) : (w.alloc (.cells #[] 5)).ownsRow w.heap.size 5 1 (.slice (some ⟨w.heap.size, 0, none⟩) 0 0) ([] : List Nat).length (vals .u8 []) :=
  ⟨rfl, .inr ⟨w.heap.size, 0, #[], rfl, Nat.le_refl _, heap_alloc_new w _, Nat.le_refl _, Nat.zero_le _, rfl, rfl⟩⟩
/-- Some bytes, n of them, in a row of one's own. -/
def Some8 (w : World) (base : Nat) (v : Value) (n : Nat) : Prop := ∃ l : List Nat, l.length = n ∧ Sha.Bs l ∧ w.ownsRow base 5 1 v n (vals .u8 l)
theorem Some8.cell {w : World} {base p n cap k : Nat} (h : Some8 w base (.slice (some ⟨p, 0, none⟩) n cap) n) (hk : k < n) : ∃ x : Nat, x < 256 ∧ w.cell? ⟨p, k, none⟩ = some (.int .u8 (x : Int)) ∧ w.frozen? ⟨p, k, none⟩ = false := by
  obtain ⟨l, hl, hb, ho⟩ := h
  refine ⟨l.getD k 0, hb.getD k, ?_, ho.frozenAt k⟩
  rw [ho.cellAt k (by omega), vals_get _ _ _ (by omega)]
theorem Some8.turn {w : World} {base p n cap k x : Nat} (h : Some8 w base (.slice (some ⟨p, 0, none⟩) n cap) n) (hx : x < 256) : Some8 (w.setCell ⟨p, k, none⟩ (.int .u8 (bits .xor .u8 (x : Int) 255))) base (.slice (some ⟨p, 0, none⟩) n cap) n := by
  obtain ⟨l, hl, hb, ho⟩ := h
  have e : bits .xor .u8 (x : Int) 255 = ((x ^^^ 255 : Nat) : Int) := u8_xor_nat x 255 hx (by decide)
  rw [e]
  refine ⟨l.set k (x ^^^ 255), by simpa using hl, Bs_set hb _ _ (Nat.xor_lt_two_pow (n := 8) hx (by decide)), ?_⟩
  rw [← vals_set]
  exact (ho.stored k _).1
end Go.Proofs.YtfkkpbfoipfekaaDoor
