/-
  Lists of texts that the statements make: append of a list that came in, and of one text.
-/
import Derived.Test.YtaoaegkfejlgkaaL2
namespace Go.Proofs.Ytaoaegkfejlgkaa.Dsk
open Go.RowKit
/-- A row of texts of one's own: the texts lie below B, the row from C on. -/
structure OwnL (w : World) (B C : Nat) (v : Value) (rs : List (List UInt8)) : Prop where
  ex : ∃ xs, w.ownsRow 0 33 1 v rs.length xs ∧ ∀ (i : Nat) x, rs[i]? = some x → ∃ Bx c, xs[i]? = some (.slice Bx x.length c) ∧ x.length ≤ c ∧ Rd w (· < B) Bx x
  own : ∀ k, v.ownBlock = some k → C ≤ k
theorem RdL.cells {w : World} {S : Nat → Prop} {ad : Addr} {rs : List (List UInt8)} (h : RdL w S (some ad) rs) : ∃ xs : List Value, xs.length = rs.length ∧ (∀ j u, xs[j]? = some u → w.cell? (ad.add j) = some u) ∧ (∀ u ∈ xs, u.oneCell' = true) ∧ ∀ (i : Nat) x, rs[i]? = some x → ∃ Bx c, xs[i]? = some (.slice Bx x.length c) ∧ x.length ≤ c ∧ Rd w S Bx x := by
  have hc : ∀ i, i < rs.length → ∃ Bx c, ∃ x, rs[i]? = some x ∧ w.cell? (ad.add i) = some (.slice Bx x.length c) ∧ x.length ≤ c ∧ Rd w S Bx x := fun i hi => by
    obtain ⟨ad', Bx, c, e, h2, h3, h4, h5, h6⟩ := h i _ (List.getElem?_eq_getElem hi)
    injection e with e
    subst e
    exact ⟨Bx, c, _, List.getElem?_eq_getElem hi, h4, h5, h6⟩
  refine ⟨(List.range rs.length).map fun i => (w.cell? (ad.add i)).getD undef, by simp, fun j u hu => ?_, fun u hu => ?_, fun i x hx => ?_⟩
  · have hj : j < rs.length := by have := (List.getElem?_eq_some_iff.1 hu).1; simpa using this
    obtain ⟨Bx, c, x, _, h4, _⟩ := hc j hj
    simp [hj, h4] at hu
    rw [h4, ← hu]
  · simp only [List.mem_map, List.mem_range] at hu
    obtain ⟨i, hi, rfl⟩ := hu
    obtain ⟨Bx, c, x, _, h4, _⟩ := hc i hi
    rw [h4]
    rfl
  · have hi : i < rs.length := (List.getElem?_eq_some_iff.1 hx).1
    obtain ⟨Bx, c, y, hy, h4, h5, h6⟩ := hc i hi
    rw [hx] at hy
    injection hy with hy
    subst hy
    exact ⟨Bx, c, by simp [hi, h4], h5, h6⟩
theorem row_up {w : World} {e : TypeId} {size n C : Nat} {v : Value} {xs : List Value} (h : w.ownsRow 0 e size v n xs) (hC : ∀ k, v.ownBlock = some k → C ≤ k) : w.ownsRow C e size v n xs := by
  refine ⟨h.1, ?_⟩
  rcases h.2 with h2 | ⟨g, cap, cur, hv, hg, r⟩
  · exact .inl h2
  · exact .inr ⟨g, cap, cur, hv, hC g (by rw [hv]; rfl), r⟩
theorem row_down {w : World} {e : TypeId} {size n C : Nat} {v : Value} {xs : List Value} (h : w.ownsRow C e size v n xs) : w.ownsRow 0 e size v n xs ∧ ∀ k, v.ownBlock = some k → C ≤ k :=
  ⟨by
    refine ⟨h.1, ?_⟩
    rcases h.2 with h2 | ⟨g, cap, cur, hv, hg, r⟩
    · exact .inl h2
    · exact .inr ⟨g, cap, cur, hv, Nat.zero_le _, r⟩, fun k e => (h.lt k e).1⟩
section
variable {w w' : World} {B C : Nat} {v : Value} {rs : List (List UInt8)}
theorem OwnL.form (h : OwnL w B C v rs) : ∃ A c, v = .slice A rs.length c := by
  obtain ⟨xs, h1, _⟩ := h.ex
  exact row_slice h1
theorem OwnL.lt (h : OwnL w B C v rs) : ∀ k, v.ownBlock = some k → k < w.heap.size := by
  obtain ⟨xs, h1, _⟩ := h.ex
  exact fun k e => (h1.lt k e).2
theorem OwnL.old (h : OwnL w B C v rs) (hb : Below w.heap.size w w') : OwnL w' B C v rs := by
  obtain ⟨xs, h1, h2⟩ := h.ex
  refine ⟨⟨xs, row_keep h1 (fun k e => hb.block k (h1.lt k e).2), fun i x hx => ?_⟩, h.own⟩
  obtain ⟨Bx, c, e1, e2, e3⟩ := h2 i x hx
  exact ⟨Bx, c, e1, e2, e3.old hb⟩
theorem OwnL.rdl (h : OwnL w B C v rs) {A : Option Addr} {n c : Nat} (hv : v = .slice A n c) : RdL w (fun k => k < B ∨ C ≤ k) A rs := fun i x hx => by
  obtain ⟨xs, h1, h2⟩ := h.ex
  obtain ⟨Bx, cx, e1, e2, e3⟩ := h2 i x hx
  have hcells := fun p => World.ownsRow.cells (g := p) h1
  have hown := h.own
  have hlt := h1.lt
  rcases h1.2 with ⟨e, h3⟩ | ⟨g, cap, cur, e, _⟩
  · have := (List.getElem?_eq_some_iff.1 hx).1; omega
  · rw [e] at hv hown hlt
    injection hv with hv _ _
    exact ⟨⟨g, 0, none⟩, Bx, cx, hv.symm, .inr (hown g rfl), (hlt g rfl).2, hcells g (by rw [e]; rfl) _ _ e1, e2, e3.more (fun k hk => .inl hk)⟩
/-- Behind an append. -/
theorem OwnL.grown {us : List Value} {ls : List (List UInt8)} {xs : List Value} {v' : Value} (ho : w.ownsRow 0 33 1 v ls.length xs) (hr : ∀ (i : Nat) x, ls[i]? = some x → ∃ Bx c, xs[i]? = some (.slice Bx x.length c) ∧ x.length ≤ c ∧ Rd w (· < B) Bx x) (hown : ∀ k, v.ownBlock = some k → C ≤ k) (hus : ∀ (i : Nat) x, rs[i]? = some x → ∃ Bx c, us[i]? = some (.slice Bx x.length c) ∧ x.length ≤ c ∧ Rd w (· < B) Bx x)
    (ho' : w'.ownsRow 0 33 1 v' (ls.length + rs.length) (xs ++ us)) (hg : w.grownBy w' v.ownBlock) (hBC : B ≤ C) (hv' : ∀ k, v'.ownBlock = some k → C ≤ k) : OwnL w' B C v' (ls ++ rs) := by
  have hxl : xs.length = ls.length := by have := ho.1; omega
  have keep : ∀ {Bx : Option Addr} {x : List UInt8}, Rd w (· < B) Bx x → Rd w' (· < B) Bx x := fun {Bx x} h hl => by
    obtain ⟨ad, e, a1, a2, a3⟩ := h hl
    refine ⟨ad, e, a1, Nat.lt_of_lt_of_le a2 hg.size, fun j u hu => ?_⟩
    rw [← a3 j u hu]
    refine World.cell?_of_block ?_
    rw [block_add]
    exact hg.block _ a2 (fun e => by have := hown _ e.symm; have a1' : ad.block < B := a1; omega)
  refine ⟨⟨xs ++ us, by rw [List.length_append]; exact ho', fun i x hx => ?_⟩, hv'⟩
  by_cases hi : i < ls.length
  · rw [List.getElem?_append_left hi] at hx
    obtain ⟨Bx, c, e1, e2, e3⟩ := hr i x hx
    exact ⟨Bx, c, by rw [List.getElem?_append_left (by omega)]; exact e1, e2, keep e3⟩
  · rw [List.getElem?_append_right (by omega)] at hx
    obtain ⟨Bx, c, e1, e2, e3⟩ := hus _ x hx
    exact ⟨Bx, c, by rw [List.getElem?_append_right (by omega), hxl]; exact e1, e2, keep e3⟩
end
/-- Texts in a slice, wherever it lies. -/
def Srcs (w : World) (B : Nat) (A : Option Addr) (rs : List (List UInt8)) : Prop :=
  (A = none ∧ rs = []) ∨ ∃ (ad : Addr) (us : List Value), A = some ad ∧ us.length = rs.length ∧ (∀ j u, us[j]? = some u → w.cell? (ad.add j) = some u) ∧ (∀ u ∈ us, u.oneCell' = true) ∧ ∀ (i : Nat) x, rs[i]? = some x → ∃ Bx c, us[i]? = some (.slice Bx x.length c) ∧ x.length ≤ c ∧ Rd w (· < B) Bx x
theorem RdL.srcs {w : World} {B : Nat} {A : Option Addr} {rs : List (List UInt8)} (h : RdL w (· < B) A rs) : Srcs w B A rs := by
  cases A with
  | none =>
    refine .inl ⟨rfl, ?_⟩
    cases rs with
    | nil => rfl
    | cons y r => obtain ⟨_, _, _, e, _⟩ := h 0 y rfl; cases e
  | some ad =>
    obtain ⟨us, h1, h2, h3, h4⟩ := h.cells
    exact .inr ⟨ad, us, rfl, h1, h2, h3, h4⟩
/-- One text, in a slice that was made for it. -/
theorem srcs_one (w : World) (B : Nat) (Bx : Option Addr) (n c : Nat) (x : List UInt8) (hn : n = x.length) (hc : x.length ≤ c) (h : Rd w (· < B) Bx x) (C : Array Value) (hC : C = #[.slice Bx n c]) (p : Nat) (hp : p = w.heap.size) : Srcs (w.alloc (.cells C 33)) B (some ⟨p, 0, none⟩) [x] := by
  subst hn hC hp
  have hb := Blk.new w 33 #[.slice Bx x.length c] [.slice Bx x.length c] rfl
  refine .inr ⟨_, [.slice Bx x.length c], rfl, rfl, fun j u hu => by rw [Addr.add_mid, Nat.zero_add, hb.cell]; exact hu, fun u hu => by rw [List.mem_singleton.1 hu]; rfl, fun i y hy => ?_⟩
  cases i with
  | zero =>
    simp at hy
    subst hy
    exact ⟨Bx, c, rfl, hc, h.old ((Below.refl _ _).alloc (Nat.le_refl _) _)⟩
  | succ i => simp at hy
/-- append(x, y...) of texts that came in. -/
theorem wpList_append_list {w : World} {ops : Array Oper} {rest : List Oper} {o : Oper} {a : Act} {Q : Exit → Act → World → Prop} (hgd : o.guard = none) (s x : Operand)
    (ho : o.op = .call { callee := .builtin .append, args := #[s, x], argTypes := #[32, 32] }) (B C : Nat) (v : Value) (ls rs : List (List UInt8)) (hs : a.eval s = v) (hown : OwnL w B C v ls) (A : Option Addr) (c : Nat) (hx : a.eval x = .slice A rs.length c) (hc : A = none → c = 0) (hr : Srcs w B A rs) (hBC : B ≤ C) (hC : C ≤ w.heap.size) (hm : ls.length + rs.length ≤ 100000)
    (h : ∀ v' w', Hid (OwnL w' B C v' (ls ++ rs)) → Hid (Below C w w') → wpList Try.prog ops Q rest (a.put o.dst v') w') : wpList Try.prog ops Q (o :: rest) a w := by
  obtain ⟨i0, hi0, hz0, hz1, hz2⟩ := info_parts infoRow
  obtain ⟨xs, h1, h2⟩ := hown.ex
  rcases hr with ⟨rfl, rfl⟩ | ⟨ad, us, rfl, hul, hus1, hus2, hus3⟩
  · obtain rfl := hc rfl
    exact wpList_append_own_none hgd s x 32 ho 0 33 i0 1 Try.underlying32 hi0 v ls.length _ hs h1 hx (h v w (Lib.hid (by simpa using hown)) (Lib.hid (Below.refl _ _)))
  · skip
    refine wpList_append_own w hgd s x 32 ho C 33 i0 _ 1 24 Try.underlying32 hi0 hz0 hz1 hz2 rfl (by decide) v ls.length _ hs (row_up h1 hown.own) ad rs.length c us hx (by omega) hus1 hus2 (by unfold maxLen; omega) (by omega) hC ?_
    intro v' w' h3 h4 _
    have hb : Below C w w' := ⟨h4.os, h4.tape, h4.output, h4.size, fun k hk => h4.block k (by omega) (fun e => by have := hown.own k e.symm; omega)⟩
    obtain ⟨h5, h6⟩ := row_down h3
    exact h v' w' (Lib.hid (OwnL.grown h1 h2 hown.own hus3 h5 h4 hBC h6)) (Lib.hid hb)
/-- An empty row of texts that was made. -/
theorem own_list (w : World) (B : Nat) : OwnL (w.alloc (.cells #[] 33)) B w.heap.size (.slice (some ⟨w.heap.size, 0, none⟩) 0 0) [] :=
  ⟨⟨[], ⟨rfl, .inr ⟨w.heap.size, 0, #[], rfl, Nat.zero_le _, heap_alloc_new w _, Nat.le_refl _, Nat.zero_le _, rfl, rfl⟩⟩, fun i x hx => by simp at hx⟩, fun k e => by
    have e' : some w.heap.size = some k := e
    injection e' with e'
    omega⟩
end Go.Proofs.Ytaoaegkfejlgkaa.Dsk
