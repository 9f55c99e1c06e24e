/-
  Bytes appended onto a row of one's own; a disk on which a fuse is lit.
-/
import Derived.Test.YtaoaegkfejlgkaaL3
import Derived.Test.YtaoaegkfejlgkaaL4
import Derived.Laws.AppendOwnNone
namespace Go.Proofs.Ytaoaegkfejlgkaa.Dsk
open Go.RowKit
/-- A row of one's own holds these bytes. -/
abbrev Own (w : World) (base : Nat) (v : Value) (l : List UInt8) : Prop := w.ownsRow base 5 1 v l.length (bc l)
/-- append(x, y...) onto a row of the call's own, y nil, empty or not. -/
theorem wpList_append_own8 {w : World} {ops : Array Oper} {rest : List Oper} {o : Oper} {a : Act} {Q : Exit → Act → World → Prop} (hgd : o.guard = none) (s x : Operand)
    (ho : o.op = .call { callee := .builtin .append, args := #[s, x], argTypes := #[33, 33] }) (base : Nat) (v : Value) (l : List UInt8) (hs : a.eval s = v) (hown : Own w base v l)
    (A : Option Addr) (c : Nat) (l' : List UInt8) (hx : a.eval x = .slice A l'.length c) (hc : A = none → c = 0) (S : Nat → Prop) (hr : Rd w S A l') (hb : l.length + l'.length ≤ 1000000) (hbase : base ≤ w.heap.size)
    (h : ∀ v' w', Own w' base v' (l ++ l') → w.grownBy w' v.ownBlock → wpList Try.prog ops Q rest (a.put o.dst v') w') : wpList Try.prog ops Q (o :: rest) a w := by
  obtain ⟨i0, hi0, hz0, hz1, hz2⟩ := info_parts Try.info5
  cases A with
  | none =>
    have hl : l' = [] := by
      cases l' with
      | nil => rfl
      | cons y r => obtain ⟨_, e, _⟩ := hr (by simp); cases e
    subst hl
    obtain rfl := hc rfl
    refine wpList_append_own_none hgd s x 33 ho base 5 i0 1 Try.underlying33 hi0 v l.length _ hs hown hx (h v w ?_ (World.grownBy.refl w _))
    simpa using hown
  | some ad =>
    refine wpList_append_own w hgd s x 33 ho base 5 i0 _ 1 1 Try.underlying33 hi0 hz0 hz1 hz2 rfl (by decide) v l.length _ hs hown ad l'.length c (bc l') hx (by rw [bc_length]; omega) (fun j u hu => ?_) (bc_one _) (by unfold maxLen; omega) (by omega) hbase ?_
    · have hj : j < (bc l').length := (List.getElem?_eq_some_iff.1 hu).1
      rw [bc_length] at hj
      obtain ⟨ad', e, _, _, h3⟩ := hr (by omega)
      injection e with e
      subst e
      exact h3 j u hu
    · intro v' w' h1 h2 _
      rw [← bc_append] at h1
      rw [← List.length_append] at h1
      exact h v' w' h1 h2
/-- An empty row that the call made. -/
theorem own8_empty (w : World) : Own (w.alloc (.cells #[] 5)) w.heap.size (.slice (some ⟨w.heap.size, 0, none⟩) 0 0) [] :=
  ⟨rfl, .inr ⟨w.heap.size, 0, #[], rfl, Nat.le_refl _, heap_alloc_new w _, Nat.le_refl _, by unfold maxLen; omega, rfl, rfl⟩⟩
/-- Such a row, as a slice that reads as its bytes. -/
theorem Own.rd {w : World} {base : Nat} {v : Value} {l : List UInt8} (h : Own w base v l) : ∃ A c, v = .slice A l.length c ∧ l.length ≤ c ∧ (A = none → c = 0) ∧ Rd w (fun k => base ≤ k) A l := by
  have hcells := fun p => World.ownsRow.cells (g := p) h
  rcases h.2 with ⟨rfl, h0⟩ | ⟨p, cap, cur, rfl, hb, hg, hc, hm, hs, ht⟩
  · exact ⟨none, 0, by rw [h0], by omega, fun _ => rfl, fun hl => by omega⟩
  · have hlt : p < w.heap.size := (Array.getElem?_eq_some_iff.1 hg).1
    exact ⟨some ⟨p, 0, none⟩, cap, rfl, hc, (fun e => by cases e), (fun _ => ⟨_, rfl, hb, hlt, hcells p rfl⟩)⟩
theorem light_has {w : World} {d g0 : Nat} {s : Dk} {c : Lc} {n N : Nat} (h : Has w d g0 s n N c) (a b : Int) (ha : 0 ≤ a) (ha' : a ≤ 9223372036854775807) (hb : 0 ≤ b) :
    Calls Try.prog 12 #[.pointer (some ⟨d, 0, none⟩), .int .i64 a, .int .i64 b] w fun e w' => e = .returned (.int .i64 0) ∧ Has w' d g0 (s.lit a b) n N c ∧ But d g0 w w' :=
  (light_ok w d g0 s h.dsk a b ha hb).mono fun _ _ ⟨e, hd, hb', _⟩ => ⟨e, ⟨hd, okn_lit h.ok ha ha' hb, h.len, h.sz, h.wk⟩, hb'⟩
/-- Opening a disk, whatever its fuse: its records are there. -/
theorem open_has (w : World) (d g0 : Nat) (s : Dk) (n N : Nat) (c : Lc) (h : Has w d g0 s n N c) (hup : s.down = false) (hn : n ≤ 1000000) (hN : N ≤ 1000000) :
    Calls Try.prog 11 #[.pointer (some ⟨d, 0, none⟩)] w fun e w' => But d g0 w w' ∧ ∃ s' c', c'.rs = c.rs ∧ Has w' d g0 s' (n + 1) N c' ∧ ((∃ lb, e = .returned (.tuple #[.pointer (some ⟨lb, 0, none⟩), .int .i64 0])) ∨ e = .returned (.tuple #[.pointer none, .int .i64 20])) := by
  refine (open_log w d g0 s n N c h hup hn hN).mono ?_
  rintro e w' ⟨hb, s', _, ⟨lb, e1, _, _, e4⟩ | ⟨_, e2, _, e3⟩⟩
  · exact ⟨hb, s', { c with was := false }, rfl, e4.has, .inl ⟨lb, e1⟩⟩
  · exact ⟨hb, s', c, rfl, e3, .inr e2⟩
end Go.Proofs.Ytaoaegkfejlgkaa.Dsk
