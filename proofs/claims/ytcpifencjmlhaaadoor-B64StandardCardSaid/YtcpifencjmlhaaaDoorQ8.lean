/-
  Bytes in a row that a conversion made (its mark lies behind the row's end): read, written and appended to; a string as such a row.
-/
import Derived.Test.YtcpifencjmlhaaaDoorQMem
import Derived.ArgAppend
import Derived.Lib.ConvBytes
namespace Go.Proofs.YtcpifencjmlhaaaDoor.B64
open Go.RowKit
/-- Block g is a row of cap bytes, none of them frozen, that begins with these. -/
def RowAt (w : World) (g cap : Nat) (l : List Nat) : Prop :=
  ∃ (cur : Array Value) (fz : Nat × Nat), w.heap[g]? = some (.cells cur 5 fz) ∧ cur.size = cap ∧ (∀ i, i < cap → ¬ (fz.1 ≤ i ∧ i < fz.2)) ∧ l.length ≤ cap ∧ cap ≤ maxLen ∧ cur.toList.take l.length = vals .u8 l
section
variable {w w' : World} {g cap : Nat} {l : List Nat}
theorem RowAt.lt (h : RowAt w g cap l) : g < w.heap.size := by
  obtain ⟨cur, fz, hg, _⟩ := h
  exact (Array.getElem?_eq_some_iff.1 hg).1
theorem RowAt.frozen (h : RowAt w g cap l) (i : Nat) (hi : i < cap) : w.frozen? ⟨g, i, none⟩ = false := by
  obtain ⟨cur, ⟨lo, hi'⟩, hg, _, hf, _⟩ := h
  have := hf i hi
  simp only [World.frozen?, hg]
  simp only [Bool.and_eq_false_iff, decide_eq_false_iff_not]
  simp only at this
  omega
theorem RowAt.there (h : RowAt w g cap l) (i : Nat) (hi : i < cap) : (w.cell? ⟨g, i, none⟩).isSome = true := by
  obtain ⟨cur, fz, hg, hs, _⟩ := h
  rw [cell_of_row w g i cur _ fz hg, Array.getElem?_eq_getElem (by omega)]
  rfl
theorem RowAt.get (h : RowAt w g cap l) (j : Nat) (u : Value) (hu : (vals .u8 l)[j]? = some u) : w.cell? ⟨g, j, none⟩ = some u := by
  obtain ⟨cur, fz, hg, hs, _, _, _, ht⟩ := h
  rw [cell_of_row w g j cur _ fz hg]
  rw [← ht, List.getElem?_take] at hu
  split at hu
  · simpa using hu
  · cases hu
theorem RowAt.cell (h : RowAt w g cap l) (j : Nat) (hj : j < l.length) : w.cell? ⟨g, j, none⟩ = some (.int .u8 (l.getD j 0 : Nat)) := h.get j _ (vals_get _ _ _ hj)
theorem RowAt.rd (h : RowAt w g cap l) : RdB w w.heap.size (some ⟨g, 0, none⟩) l := fun _ => ⟨_, rfl, h.lt, fun j u hu => by rw [Addr.add_mid, Nat.zero_add]; exact h.get j u hu⟩
theorem RowAt.alloc (h : RowAt w g cap l) (o : Obj) : RowAt (w.alloc o) g cap l := by
  obtain ⟨cur, fz, hg, r⟩ := h
  exact ⟨cur, fz, (Below.heap_alloc w _ g (Array.getElem?_eq_some_iff.1 hg).1).trans hg, r⟩
theorem row_set {cur : Array Value} {fz : Nat × Nat} (hg : w.heap[g]? = some (.cells cur 5 fz)) (i : Nat) (u : Value) : (w.setCell ⟨g, i, none⟩ u).heap[g]? = some (.cells (cur.setIfInBounds i u) 5 fz) := by
  simp [World.setCell, Array.getElem?_modify, hg]
theorem RowAt.put (h : RowAt w g cap l) (i y : Nat) : RowAt (w.setCell ⟨g, i, none⟩ (.int .u8 (y : Int))) g cap (l.set i y) := by
  obtain ⟨cur, fz, hg, hs, hf, hl, hm, ht⟩ := h
  refine ⟨_, fz, row_set hg i _, by simpa using hs, hf, by simpa using hl, hm, ?_⟩
  rw [List.length_set, Array.toList_setIfInBounds, ← vals_set, ← ht, List.take_set]
theorem RowAt.push (h : RowAt w g cap l) (y : Nat) (hi : l.length < cap) : RowAt (w.setCell ⟨g, l.length, none⟩ (.int .u8 (y : Int))) g cap (l ++ [y]) := by
  obtain ⟨cur, fz, hg, hs, hf, hl, hm, ht⟩ := h
  refine ⟨_, fz, row_set hg _ _, by simpa using hs, hf, by simp; omega, hm, ?_⟩
  rw [List.length_append, List.length_singleton, Array.toList_setIfInBounds, vals_append, ← ht, List.take_add_one, List.take_set]
  have h1 : (cur.toList.take l.length).set l.length (.int .u8 (y : Int)) = cur.toList.take l.length := by
    rw [List.set_eq_of_length_le (by rw [List.length_take]; omega)]
  rw [h1]
  congr 1
  rw [List.getElem?_set_self (by simpa using (by omega : l.length < cur.size))]
  rfl
theorem RowAt.of_own {base : Nat} {v : Value} (h : Own w base v l) (hl : 0 < l.length) : ∃ g cap, v = .slice (some ⟨g, 0, none⟩) l.length cap ∧ base ≤ g ∧ RowAt w g cap l := by
  rcases h.2 with ⟨_, h0⟩ | ⟨g, cap, cur, hv, hb, hg, hc, hm, hs, ht⟩
  · omega
  · exact ⟨g, cap, hv, hb, cur, (0, 0), hg, by simpa using hs, fun i _ => by omega, hc, hm, by simpa using ht⟩
end
theorem below_put {B g : Nat} {w w' : World} (h : Below B w w') (hg : B ≤ g) (i : Nat) (u : Value) : Below B w (w'.setCell ⟨g, i, none⟩ u) :=
  ⟨h.os, h.tape, h.output, by simpa using h.size, fun k hk => (Below.heap_setCell w' ⟨g, i, none⟩ u k (fun e => by have e : k = g := e; omega)).trans (h.block k hk)⟩
/-- append(x, y) of one byte onto such a row. -/
theorem wpList_append_row {w : World} {ops : Array Oper} {rest : List Oper} {o : Oper} {a : Act} {Q : Exit → Act → World → Prop} (hgd : o.guard = none) (s x : Operand)
    (ho : o.op = .call { callee := .builtin .append, args := #[s, x], argTypes := #[22, 22] }) (B g cap : Nat) (l : List Nat) (hs : a.eval s = .slice (some ⟨g, 0, none⟩) l.length cap) (hrow : RowAt w g cap l) (hBg : B ≤ g) (hB : B ≤ w.heap.size)
    (y : Nat) (hx : a.eval x = .slice (some ⟨w.heap.size, 0, none⟩) 1 1) (hb : l.length + 1 ≤ 1000000)
    (h : ∀ g' cap' w', RowAt w' g' cap' (l ++ [y]) → B ≤ g' → Below B w w' → wpList Tryd.prog ops Q rest (a.put o.dst (.slice (some ⟨g', 0, none⟩) (l.length + 1) cap')) w') :
    wpList Tryd.prog ops Q (o :: rest) a (w.alloc (.cells #[.int .u8 (y : Int)] 5)) := by
  obtain ⟨i0, hi0, hz0, hz1, hz2⟩ := info_parts info5
  have hrow' := hrow.alloc (.cells #[.int .u8 (y : Int)] 5)
  have hbel : Below B w (w.alloc (.cells #[.int .u8 (y : Int)] 5)) := (Below.refl B w).alloc hB _
  refine wpList_append_arg _ hgd s x 22 ho 5 i0 _ 1 1 Tryd.underlying22 hi0 hz0 hz1 hz2 rfl (by decide) g 0 l.length cap (vals .u8 l) hs (by rw [vals_length, Nat.mul_one])
    (fun j u hu => by rw [Nat.zero_add]; exact hrow'.get j u hu) ⟨w.heap.size, 0, none⟩ 1 1 [.int .u8 (y : Int)] hx rfl ?_ ?_ ?_ (by unfold maxLen; omega) (by omega) ?_ ?_
  · intro j u hu
    rw [Addr.add_mid, Nat.zero_add, (Blk.new w 5 #[.int .u8 (y : Int)]).cell]
    simpa using hu
  · intro u hu
    rw [List.mem_singleton] at hu
    rw [hu]
    rfl
  · intro hc j hj
    obtain rfl : j = 0 := by simpa using hj
    rw [show 0 + l.length * 1 + 0 = l.length by omega]
    exact ⟨hrow'.there _ (by omega), hrow'.frozen _ (by omega)⟩
  · intro hc
    rw [show 0 + l.length * 1 = l.length by omega]
    exact h g cap _ (hrow'.push y (by omega)) hBg (below_put hbel hBg _ _)
  · intro hc v' w' hown hgrow
    have hown' : Own w' (w.alloc (.cells #[.int .u8 (y : Int)] 5)).heap.size v' (l ++ [y]) := by
      unfold Own
      rw [List.length_append, List.length_singleton, vals_append]
      exact hown
    obtain ⟨g', cap', rfl, hb', hr'⟩ := RowAt.of_own hown' (by simp)
    rw [List.length_append, List.length_singleton]
    refine h g' cap' w' hr' (by simp at hb'; omega) (hbel.grown hgrow (by simp; omega) (fun k hk => by cases hk))
/-- []byte(s). -/
theorem conv_str (w : World) (l : List Nat) (hb : Bs l) (hm : l.length ≤ 1000000) :
    ∃ (cap : Nat) (w' : World), (convert 9 22 (.string (str l))).run Tryd.prog w = .ok (.slice (some ⟨w.heap.size, 0, none⟩) l.length cap) w' ∧ RowAt w' w.heap.size cap l ∧ Below w.heap.size w w' := by
  have hr := Lib.run_convert_string_bytes (P := Tryd.prog) w 9 22 5 (str l) Tryd.underlying9 Tryd.underlying22 Tryd.underlying5
  have hsz := str_size l
  have hge := grownCap_ge w (str l).size 0 5
  have hle := grownCap_le_maxLen w (str l).size 0 5 (by rw [hsz]; unfold maxLen; omega)
  have hcs : (Lib.bytesCells w 5 (str l)).size = grownCap w (str l).size 0 5 := by
    unfold Lib.bytesCells
    rw [Array.size_append, Array.size_map, Array.size_replicate]
    have : (str l).data.size = (str l).size := rfl
    omega
  refine ⟨grownCap w (str l).size 0 5, _, by rw [hr, hsz], ⟨_, _, Lib.bytesWorld_at_new w 5 (str l), hcs, fun i hi => ?_, by omega, hle, ?_⟩, ⟨?_, ?_, ?_, ?_, fun k hk => Lib.bytesWorld_at_old w _ _ k hk⟩⟩
  · rw [hcs]; simp only; omega
  · unfold Lib.bytesCells
    rw [Array.toList_append, List.take_append_of_le_length (by simp [str]), Array.toList_map, ← cells_str hb]
    rw [show (str l).data.toList = l.map UInt8.ofNat from str_list l]
    rw [List.take_of_length_le (by simp)]
    rfl
  · simp [Lib.bytesWorld, World.freeze]; rfl
  · simp [Lib.bytesWorld, World.freeze]
  · simp [Lib.bytesWorld, World.freeze]; rfl
  · rw [Lib.bytesWorld_size]; omega
end Go.Proofs.YtcpifencjmlhaaaDoor.B64
