/-
  list: an array's values are read.
-/
import Derived.Test.YtkenananejgcpaaGreatDoorJPa6
namespace Go.Proofs.YtkenananejgcpaaGreatDoor.Jsn
open Go.RowKit Txt
/-- What an address reads as, in blocks that are allowed. -/
inductive RdP (Pd : Nat → Prop) (w : World) : Addr → V → Prop
  | mk (a : Addr) (k : Int) (y : Bool) (t : List UInt8) (l : List V) (m : List M) (A : Option Addr) (ca : Nat) (B : Option Addr) (cb : Nat) (hp : Pd a.block)
    (c0 : w.cell? a = some (.int .i64 k)) (c1 : w.cell? (a.add 1) = some (.bool y)) (c2 : w.cell? (a.add 2) = some (.string (mk t)))
    (c3 : w.cell? (a.add 3) = some (.slice A (l.length : Nat) ca)) (c4 : w.cell? (a.add 4) = some (.slice B (m.length : Nat) cb))
    (hA : 0 < l.length → A.isSome = true) (hB : 0 < m.length → B.isSome = true)
    (hl : ∀ i x, l[i]? = some x → RdP Pd w ((A.getD default).add (i * 5)) x)
    (hn : ∀ i x, m[i]? = some x → w.cell? ((B.getD default).add (i * 6)) = some (.string (mk x.name)))
    (hm : ∀ i x, m[i]? = some x → RdP Pd w ((B.getD default).add (i * 6 + 1)) x.val) : RdP Pd w a (.mk k y t l m)
theorem RdP.reads {Pd : Nat → Prop} {w : World} {a : Addr} {v : V} (h : RdP Pd w a v) : Reads w a v := by
  induction h with
  | mk a k y t l m A ca B cb hp c0 c1 c2 c3 c4 hA hB hl hn hm ihl ihm => exact .mk a k y t l m A ca B cb c0 c1 c2 c3 c4 hA hB ihl hn ihm
theorem RdP.pd {Pd : Nat → Prop} {w : World} {a : Addr} {v : V} (h : RdP Pd w a v) : Pd a.block := by cases h; assumption
theorem RdP.kept {Pd : Nat → Prop} {w w' : World} {a : Addr} {v : V} (h : RdP Pd w a v) (hk : ∀ k, Pd k → k < w.heap.size → w'.heap[k]? = w.heap[k]?) : RdP Pd w' a v := by
  have hc : ∀ {y : Addr} {u : Value}, Pd y.block → w.cell? y = some u → w'.cell? y = some u := fun hy hu => (World.cell?_of_block (hk _ hy (lt_cell hu))).trans hu
  induction h with
  | mk a k y t l m A ca B cb hp c0 c1 c2 c3 c4 hA hB hl hn hm ihl ihm =>
    have hpa : ∀ n, Pd (a.add n).block := fun n => by rw [block_add]; exact hp
    refine .mk a k y t l m A ca B cb hp (hc hp c0) (hc (hpa 1) c1) (hc (hpa 2) c2) (hc (hpa 3) c3) (hc (hpa 4) c4) hA hB ihl (fun i x hx => hc ?_ (hn i x hx)) ihm
    have := (hm i x hx).pd
    rw [block_add] at this ⊢
    exact this
theorem RdP.mono {Pd Pe : Nat → Prop} {w : World} {a : Addr} {v : V} (h : RdP Pd w a v) (hk : ∀ k, Pd k → k < w.heap.size → Pe k) : RdP Pe w a v := by
  induction h with
  | mk a k y t l m A ca B cb hp c0 c1 c2 c3 c4 hA hB hl hn hm ihl ihm => exact .mk a k y t l m A ca B cb (hk _ hp (lt_cell c0)) c0 c1 c2 c3 c4 hA hB ihl hn ihm
/-- A value handed over, whose inside lies in blocks that are allowed. -/
def HoldsP (Pd : Nat → Prop) (w : World) (val : Value) (v : V) : Prop := ∃ A ca B cb, val = .agg #[.int .i64 v.kind, .bool v.yes, .string (mk v.text), .slice A (v.list.length : Nat) ca, .slice B (v.mem.length : Nat) cb] ∧
  (0 < v.list.length → A.isSome = true) ∧ (0 < v.mem.length → B.isSome = true) ∧
  (∀ i x, v.list[i]? = some x → RdP Pd w ((A.getD default).add (i * 5)) x) ∧ (∀ i x, v.mem[i]? = some x → w.cell? ((B.getD default).add (i * 6)) = some (.string (mk x.name))) ∧ (∀ i x, v.mem[i]? = some x → RdP Pd w ((B.getD default).add (i * 6 + 1)) x.val)
theorem HoldsP.holds {Pd : Nat → Prop} {w : World} {val : Value} {v : V} (h : HoldsP Pd w val v) : Holds w val v := by
  obtain ⟨A, ca, B, cb, e, h1, h2, h3, h4, h5⟩ := h
  exact ⟨A, ca, B, cb, e, h1, h2, fun i x hx => (h3 i x hx).reads, h4, fun i x hx => (h5 i x hx).reads⟩
theorem HoldsP.kept {Pd : Nat → Prop} {w w' : World} {val : Value} {v : V} (h : HoldsP Pd w val v) (hk : ∀ k, Pd k → k < w.heap.size → w'.heap[k]? = w.heap[k]?) : HoldsP Pd w' val v := by
  obtain ⟨A, ca, B, cb, e, h1, h2, h3, h4, h5⟩ := h
  refine ⟨A, ca, B, cb, e, h1, h2, fun i x hx => (h3 i x hx).kept hk, fun i x hx => (World.cell?_of_block (hk _ ?_ (lt_cell (h4 i x hx)))).trans (h4 i x hx), fun i x hx => (h5 i x hx).kept hk⟩
  have := (h5 i x hx).pd
  rw [block_add] at this ⊢
  exact this
theorem HoldsP.mono {Pd Pe : Nat → Prop} {w : World} {val : Value} {v : V} (h : HoldsP Pd w val v) (hk : ∀ k, Pd k → k < w.heap.size → Pe k) : HoldsP Pe w val v := by
  obtain ⟨A, ca, B, cb, e, h1, h2, h3, h4, h5⟩ := h
  exact ⟨A, ca, B, cb, e, h1, h2, fun i x hx => (h3 i x hx).mono hk, h4, fun i x hx => (h5 i x hx).mono hk⟩
/-- What value reads at a place, where d more may be opened, and where it ends. -/
def ValC (t : List UInt8) (d a : Nat) (v : V) (b : Nat) : Prop := ∀ pp r w, d ≤ r → r ≤ 100000 → Ps w pp t a r →
  Calls Tryz.prog 56 #[.pointer (some ⟨pp, 0, none⟩)] w fun e w' => ∃ val, e = .returned val ∧ HoldsP (fun k => w.heap.size ≤ k) w' val v ∧ Ps w' pp t b r ∧ G pp w w'
theorem info_value : (Tryz.prog.info? 27).map (fun i => (i.zero, i.size, i.bytes)) = some (some (.agg #[.int .i64 0, .bool false, .string ⟨#[]⟩, .slice none 0 0, .slice none 0 0]), 5, 80) := by kernel_rfl
/-- The values that were read so far. -/
structure LS (w0 : World) (pp n0 : Nat) (vs : List V) (k : Nat) (w : World) : Prop where
  pbox : Blk w n0 92 #[.pointer (some ⟨pp, 0, none⟩)]
  lbox : ∃ (lv : Value) (rows : List (List Value)), Blk w (n0 + 1) 24 #[lv] ∧ w.ownsRow (n0 + 2) 27 5 lv k rows.flatten ∧ rows.length = k ∧ (∀ row ∈ rows, row.length = 5 ∧ ∀ u ∈ row, u.oneCell' = true) ∧ ∀ (i : Nat) (row : List Value) (v : V), rows[i]? = some row → vs[i]? = some v → HoldsP (fun k => k ≠ pp ∧ k ≠ n0 ∧ k ≠ n0 + 1 ∧ lv.ownBlock ≠ some k ∧ w0.heap.size ≤ k) w (.agg row.toArray) v
  g : G pp w0 w
  lt : pp < n0
  le : w0.heap.size ≤ n0
theorem rows_len (rows : List (List Value)) (h : ∀ row ∈ rows, row.length = 5 ∧ ∀ u ∈ row, u.oneCell' = true) : rows.flatten.length = rows.length * 5 := by
  induction rows with
  | nil => rfl
  | cons x l ih =>
    have := (h x (by simp)).1
    have := ih (fun r hr => h r (by simp [hr]))
    simp only [List.flatten_cons, List.length_append, List.length_cons]
    omega
theorem LS.keep {w0 : World} {pp n0 : Nat} {vs : List V} {k : Nat} {w w' : World} (h : LS w0 pp n0 vs k w) (hg : G pp w w') : LS w0 pp n0 vs k w' := by
  obtain ⟨lv, rows, h1, h2, h3, h4, h5⟩ := h.lbox
  have hlt := h.lt
  exact ⟨h.pbox.grown hg (fun e => by injection e; omega), ⟨lv, rows, h1.grown hg (fun e => by injection e; omega), h2.kept hg (.inr (fun e => by have := row_base h2 pp e; omega)), h3, h4, fun i row v hr hv => (h5 i row v hr hv).kept (fun k hk hl => hg.block k hl (fun e => hk.1 (by injection e)))⟩, h.g.trans hg, h.lt, h.le⟩
/-- The last element of a row is written. -/
theorem row_last {w : World} {B g cap k : Nat} {xs zs : List Value} (h : w.ownsRow B 27 5 (.slice (some ⟨g, 0, none⟩) (k + 1 : Nat) cap) (k + 1) (xs ++ zs)) (hx : xs.length = k * 5) (x0 x1 x2 x3 x4 : Value) :
    (((((w.setCell ⟨g, k * 5, none⟩ x0).setCell ⟨g, k * 5 + 1, none⟩ x1).setCell ⟨g, k * 5 + 2, none⟩ x2).setCell ⟨g, k * 5 + 3, none⟩ x3).setCell ⟨g, k * 5 + 4, none⟩ x4).ownsRow B 27 5 (.slice (some ⟨g, 0, none⟩) (k + 1 : Nat) cap) (k + 1) (xs ++ [x0, x1, x2, x3, x4]) ∧
    (∀ j, j < 5 → (w.cell? ⟨g, k * 5 + j, none⟩).isSome = true) ∧ (∀ j, w.frozen? ⟨g, j, none⟩ = false) := by
  obtain ⟨h1, h2⟩ := h
  rcases h2 with ⟨e, _⟩ | ⟨g', cap', cur, e, hb, hh, hc, hm, hs, ht⟩
  · cases e
  injection e with e1 e2 e3
  injection e1 with e1
  injection e1 with e1
  subst e1 e3
  have hB : Blk w g 27 cur := hh
  have hB5 := blk_set (blk_set (blk_set (blk_set (blk_set hB (k * 5) x0) (k * 5 + 1) x1) (k * 5 + 2) x2) (k * 5 + 3) x3) (k * 5 + 4) x4
  refine ⟨⟨by simp [hx]; omega, .inr ⟨g, cap, _, rfl, hb, hB5, hc, hm, by simpa using hs, ?_⟩⟩, fun j hj => ?_, fun j => Lib.frozen_of_heap hh j⟩
  · apply List.ext_getElem?
    intro i
    have hi := congrArg (fun l : List Value => l[i]?) ht
    change (List.take _ _)[i]? = _ at hi
    by_cases hlt : i < (k + 1) * 5
    · rw [List.getElem?_take_of_lt hlt] at hi ⊢
      simp only [Array.getElem?_toList, Array.getElem?_setIfInBounds, Array.size_setIfInBounds] at hi ⊢
      by_cases hlo : i < k * 5
      · rw [List.getElem?_append_left (by omega)] at hi ⊢
        simp only [show ¬ (k * 5 + 4 = i) by omega, show ¬ (k * 5 + 3 = i) by omega, show ¬ (k * 5 + 2 = i) by omega, show ¬ (k * 5 + 1 = i) by omega, show ¬ (k * 5 = i) by omega, if_false]
        exact hi
      · rw [List.getElem?_append_right (by omega), hx]
        have : i = k * 5 ∨ i = k * 5 + 1 ∨ i = k * 5 + 2 ∨ i = k * 5 + 3 ∨ i = k * 5 + 4 := by omega
        rcases this with rfl | rfl | rfl | rfl | rfl
        all_goals
          have hsz : (k + 1) * 5 ≤ cur.size := by rw [hs]; exact Nat.mul_le_mul_right 5 hc
          simp
          omega
    · rw [List.getElem?_take_eq_none (by omega), List.getElem?_eq_none (by simp [hx]; omega)]
  · rw [hB.cell, Array.getElem?_eq_getElem (by rw [hs]; have := Nat.mul_le_mul_right 5 hc; omega)]
    rfl
theorem set_swap (w : World) {g h i j : Nat} (x y : Value) (hne : ¬ h = g) : (w.setCell ⟨h, j, none⟩ y).setCell ⟨g, i, none⟩ x = (w.setCell ⟨g, i, none⟩ x).setCell ⟨h, j, none⟩ y := by
  unfold World.setCell
  congr 1
  apply Array.ext_getElem?
  intro k
  simp only [Array.getElem?_modify]
  by_cases hg : g = k
  · subst hg
    simp [hne]
  · by_cases hh : h = k
    · subst hh
      simp [hg]
    · simp [hg, hh]
/-- One more value was read. -/
theorem list_fin {w0 w w4 wz : World} {pp n0 k gg cap cap9 b r : Nat} {A : Option Addr} {t : List UInt8} {vs : List V} {v : V} {rows : List (List Value)} {A' B' : Option Addr} {ca' cb' : Nat}
    (hs : LS w0 pp n0 vs k w) (hlen : rows.length = k) (b1 : Blk w (n0 + 1) 24 #[.slice A (k : Nat) cap]) (ow : w.ownsRow (n0 + 2) 27 5 (.slice A (k : Nat) cap) k rows.flatten) (hrows : ∀ row ∈ rows, row.length = 5 ∧ ∀ u ∈ row, u.oneCell' = true)
    (hh : ∀ (i : Nat) (row : List Value) (v : V), rows[i]? = some row → vs[i]? = some v → HoldsP (fun q => q ≠ pp ∧ q ≠ n0 ∧ q ≠ n0 + 1 ∧ (Value.slice A k cap).ownBlock ≠ some q ∧ w0.heap.size ≤ q) w (.agg row.toArray) v)
    (hgw : G pp w w4) (hp4 : Ps w4 pp t b r) (hgz : w4.grownBy wz (Value.slice A k cap).ownBlock) (hat : (Value.slice A k cap).ownBlock = some gg ∨ w4.heap.size ≤ gg)
    (hr5 : (((((wz.setCell ⟨gg, k * 5, none⟩ (.int .i64 v.kind)).setCell ⟨gg, k * 5 + 1, none⟩ (.bool v.yes)).setCell ⟨gg, k * 5 + 2, none⟩ (.string (mk v.text))).setCell ⟨gg, k * 5 + 3, none⟩ (.slice A' (v.list.length : Nat) ca')).setCell ⟨gg, k * 5 + 4, none⟩ (.slice B' (v.mem.length : Nat) cb')).ownsRow (n0 + 2) 27 5 (.slice (some ⟨gg, 0, none⟩) (k + 1 : Nat) cap9) (k + 1) (rows.flatten ++ [.int .i64 v.kind, .bool v.yes, .string (mk v.text), .slice A' (v.list.length : Nat) ca', .slice B' (v.mem.length : Nat) cb']))
    (hho : HoldsP (fun q => w.heap.size ≤ q) w4 (.agg #[.int .i64 v.kind, .bool v.yes, .string (mk v.text), .slice A' (v.list.length : Nat) ca', .slice B' (v.mem.length : Nat) cb']) v) (hv : vs[k]? = some v) :
    LS w0 pp n0 vs (k + 1) ((((((wz.setCell ⟨gg, k * 5, none⟩ (.int .i64 v.kind)).setCell ⟨gg, k * 5 + 1, none⟩ (.bool v.yes)).setCell ⟨gg, k * 5 + 2, none⟩ (.string (mk v.text))).setCell ⟨gg, k * 5 + 3, none⟩ (.slice A' (v.list.length : Nat) ca')).setCell ⟨gg, k * 5 + 4, none⟩ (.slice B' (v.mem.length : Nat) cb')).setCell ⟨n0 + 1, 0, none⟩ (.slice (some ⟨gg, 0, none⟩) (k + 1 : Nat) cap9)) ∧
    Ps ((((((wz.setCell ⟨gg, k * 5, none⟩ (.int .i64 v.kind)).setCell ⟨gg, k * 5 + 1, none⟩ (.bool v.yes)).setCell ⟨gg, k * 5 + 2, none⟩ (.string (mk v.text))).setCell ⟨gg, k * 5 + 3, none⟩ (.slice A' (v.list.length : Nat) ca')).setCell ⟨gg, k * 5 + 4, none⟩ (.slice B' (v.mem.length : Nat) cb')).setCell ⟨n0 + 1, 0, none⟩ (.slice (some ⟨gg, 0, none⟩) (k + 1 : Nat) cap9)) pp t b r := by
  have hgg : n0 + 2 ≤ gg := row_base hr5 gg rfl
  have hlt := hs.lt
  have hle := hs.le
  have hn1 : n0 + 1 < w.heap.size := b1.lt
  have hsz := hgw.size
  have hsz2 := hgz.size
  obtain ⟨W5, hW5⟩ : ∃ W5, W5 = ((((wz.setCell ⟨gg, k * 5, none⟩ (.int .i64 v.kind)).setCell ⟨gg, k * 5 + 1, none⟩ (.bool v.yes)).setCell ⟨gg, k * 5 + 2, none⟩ (.string (mk v.text))).setCell ⟨gg, k * 5 + 3, none⟩ (.slice A' (v.list.length : Nat) ca')).setCell ⟨gg, k * 5 + 4, none⟩ (.slice B' (v.mem.length : Nat) cb') := ⟨_, rfl⟩
  have h5 : wz.grownBy W5 (some gg) := by
    rw [hW5]
    exact G.trans (G.trans (G.trans (G.trans (turned _ gg _ _) (turned _ gg _ _)) (turned _ gg _ _)) (turned _ gg _ _)) (turned _ gg _ _)
  rw [← hW5] at hr5 ⊢
  clear hW5
  have hE := turned W5 (n0 + 1) 0 (.slice (some ⟨gg, 0, none⟩) (k + 1 : Nat) cap9)
  have hs5 := h5.size
  have hsE := hE.size
  have own2 : ∀ q, (Value.slice A k cap).ownBlock = some q → n0 + 2 ≤ q := fun q hq => row_base ow q hq
  -- what is not the row and not the box lies as it lay
  have key4 : ∀ q, q < w4.heap.size → q ≠ gg → q ≠ n0 + 1 → (Value.slice A k cap).ownBlock ≠ some q → (W5.setCell ⟨n0 + 1, 0, none⟩ (.slice (some ⟨gg, 0, none⟩) (k + 1 : Nat) cap9)).heap[q]? = w4.heap[q]? := fun q hq h1 h2 h3 => by
    rw [hE.block q (by omega) (fun e => h2 (by injection e)), h5.block q (by omega) (fun e => h1 (by injection e)), hgz.block q hq (fun e => h3 e.symm)]
  have key : ∀ q, q < w.heap.size → q ≠ pp → q ≠ gg → q ≠ n0 + 1 → (Value.slice A k cap).ownBlock ≠ some q → (W5.setCell ⟨n0 + 1, 0, none⟩ (.slice (some ⟨gg, 0, none⟩) (k + 1 : Nat) cap9)).heap[q]? = w.heap[q]? := fun q hq h0 h1 h2 h3 => by
    rw [key4 q (by omega) h1 h2 h3, hgw.block q hq (fun e => h0 (by injection e))]
  have hpb := hs.pbox
  have hnpp : pp < w4.heap.size := hp4.lt
  have notown : ∀ q, q < n0 + 2 → (Value.slice A k cap).ownBlock ≠ some q := fun q hq e => by have := own2 q e; omega
  refine ⟨⟨(key n0 hpb.lt (by omega) (by omega) (by omega) (notown _ (by omega))).trans hpb, ⟨.slice (some ⟨gg, 0, none⟩) (k + 1 : Nat) cap9, rows ++ [[.int .i64 v.kind, .bool v.yes, .string (mk v.text), .slice A' (v.list.length : Nat) ca', .slice B' (v.mem.length : Nat) cb']], ?_, ?_, by simp [hlen], ?_, ?_⟩, ?_, hlt, hle⟩, ?_⟩
  · have b5 : Blk W5 (n0 + 1) 24 #[.slice A (k : Nat) cap] := ((b1.grown hgw (fun e => by injection e; omega)).grown hgz (fun e => notown _ (by omega) e.symm)).grown h5 (fun e => by injection e; omega)
    exact blk_set b5 0 _
  · rw [List.flatten_append]
    simp only [List.flatten_cons, List.flatten_nil, List.append_nil]
    exact hr5.kept hE (.inr (by simp [Value.ownBlock]; omega))
  · intro row hrow
    rcases List.mem_append.1 hrow with hrow | hrow
    · exact hrows row hrow
    · rw [List.mem_singleton.1 hrow]
      exact ⟨rfl, by intro u hu; simp at hu; rcases hu with rfl | rfl | rfl | rfl | rfl <;> rfl⟩
  · intro i row v' hi hv'
    have hgn : ∀ q, q < w.heap.size → (Value.slice A k cap).ownBlock ≠ some q → q ≠ gg := fun q hq h1 e => by
      rcases hat with h | h
      · exact h1 (by rw [h, e])
      · omega
    by_cases hik : i < k
    · rw [List.getElem?_append_left (by omega)] at hi
      refine ((hh i row v' hi hv').mono (Pe := fun q => q ≠ pp ∧ q ≠ n0 ∧ q ≠ n0 + 1 ∧ (q ≠ gg ∧ (Value.slice A k cap).ownBlock ≠ some q) ∧ w0.heap.size ≤ q) (fun q hq hl => ⟨hq.1, hq.2.1, hq.2.2.1, ⟨hgn q hl hq.2.2.2.1, hq.2.2.2.1⟩, hq.2.2.2.2⟩)).kept (fun q hq hl => key q hl hq.1 hq.2.2.2.1.1 hq.2.2.1 hq.2.2.2.1.2) |>.mono ?_
      intro q hq _
      exact ⟨hq.1, hq.2.1, hq.2.2.1, by simp [Value.ownBlock]; exact fun e => hq.2.2.2.1.1 e.symm, hq.2.2.2.2⟩
    · rw [List.getElem?_append_right (by omega), hlen] at hi
      have hk' : i = k := by
        by_cases h : i - k = 0
        · omega
        · rw [List.getElem?_eq_none (by simp; omega)] at hi; cases hi
      subst hk'
      rw [Nat.sub_self] at hi
      simp only [List.getElem?_cons_zero, Option.some.injEq] at hi
      subst hi
      rw [hv] at hv'
      injection hv' with hv'
      subst hv'
      have hown4 : ∀ q, (Value.slice A i cap).ownBlock = some q → q < w.heap.size := fun q hq => by
        rcases ow.2 with ⟨e, _⟩ | ⟨g, cap', cur, e, _, hg, _⟩
        · rw [e] at hq; simp [Value.ownBlock] at hq
        · rw [e] at hq; simp only [Value.ownBlock, Option.some.injEq] at hq; subst hq; exact (show Blk w g _ cur from hg).lt
      refine ((hho.mono (Pe := fun q => w.heap.size ≤ q ∧ q ≠ gg) (fun q hq hl => ⟨hq, fun e => ?_⟩)).kept (fun q hq hl => key4 q hl hq.2 (by have := hq.1; omega) (fun e => by have := hown4 q e; have := hq.1; omega))).mono ?_
      · rcases hat with h | h
        · have := hown4 gg h; omega
        · omega
      · intro q hq _
        refine ⟨by have := hq.1; omega, by have := hq.1; omega, by have := hq.1; omega, by simp [Value.ownBlock]; exact fun e => hq.2 e.symm, by have := hq.1; omega⟩
  · have hgg4 := hs.g.trans hgw
    have hg0 := hs.g.size
    exact ⟨(hE.os.trans (h5.os.trans hgz.os)).trans hgg4.os, (hE.tape.trans (h5.tape.trans hgz.tape)).trans hgg4.tape, (hE.output.trans (h5.output.trans hgz.output)).trans hgg4.output, by omega, fun q hq hn =>
      (key4 q (by omega) (by omega) (by omega) (notown _ (by omega))).trans (hgg4.block q hq hn)⟩
  · exact (key4 pp hnpp (by omega) (by omega) (notown _ (by omega))).trans hp4
theorem five {row : List Value} (h : row.length = 5) : ∃ x0 x1 x2 x3 x4, row = [x0, x1, x2, x3, x4] := by
  match row, h with
  | [x0, x1, x2, x3, x4], _ => exact ⟨x0, x1, x2, x3, x4, rfl⟩
set_option maxRecDepth 100000
set_option maxHeartbeats 4000000 in
theorem list1_any (t : List UInt8) (pp n0 d a r b k : Nat) (vs : List V) (v : V) (w0 w : World) (hs : LS w0 pp n0 vs k w) (hp : Ps w pp t a r) (hr : d ≤ r) (hr1 : r ≤ 100000) (hk : k ≤ 100000) (hv : vs[k]? = some v) (hval : ValC t d a v b) :
    Calls Tryz.prog 98 #[.pointer (some ⟨n0 + 1, 0, none⟩), .pointer (some ⟨n0, 0, none⟩)] w fun e w' => e = .returned (.tuple #[]) ∧ LS w0 pp n0 vs (k + 1) w' ∧ Ps w' pp t b r := by
  obtain ⟨lv, rows, b1, ow, hlen, hrows, hh⟩ := hs.lbox
  have hpn := hs.lt
  have hnle := hs.le
  have hpx := hs.pbox
  obtain ⟨i0, hi, hz0, hz1, hz2⟩ := info_parts info_value
  obtain ⟨A, cap, rfl⟩ : ∃ A c, lv = .slice A (k : Nat) c := by
    rcases ow.2 with ⟨rfl, h0⟩ | ⟨g, cap, cur, rfl, _⟩
    · exact ⟨none, 0, by rw [h0]⟩
    · exact ⟨_, _, rfl⟩
  have hn1 : n0 + 1 < w.heap.size := b1.lt
  have c0 : w.drew.cell? ⟨n0 + 1, 0, none⟩ = some (.slice A (k : Nat) cap) := b1.cell 0
  have c1 : w.drew.cell? ⟨n0, 0, none⟩ = some (.pointer (some ⟨pp, 0, none⟩)) := hpx.cell 0
  have HPd : Hid (Ps w.drew pp t a r) := Lib.hid hp
  have HV : Hid (∀ W, Ps W pp t a r → Calls Tryz.prog 56 #[.pointer (some ⟨pp, 0, none⟩)] W fun e w' => ∃ val, e = .returned val ∧ HoldsP (fun k => W.heap.size ≤ k) w' val v ∧ Ps w' pp t b r ∧ G pp W w') := Lib.hid (fun W h => hval pp r W hr hr1 h)
  have HO := Lib.hid ow
  have HR := Lib.hid hrows
  have HHh := Lib.hid hh
  have HS := Lib.hid hs
  have HN := Lib.hid (show k ≤ 100000 ∧ rows.length = k ∧ n0 + 1 < w.heap.size from ⟨hk, hlen, hn1⟩)
  have HB1 := Lib.hid b1
  have HPX := Lib.hid hpx
  clear hs hp hr hr1 hval ow hrows hh hk hlen b1 hpx hn1 hnle
  go_enter Tryz.func98, Tryz.ntmps98
  go_wp2_with fail
  have HXS : Hid (rows.flatten.length = k * 5) := Lib.hid (by rw [rows_len rows HR.out, HN.out.2.1])
  have k1 : (k : Int) < (k : Int) + 1 := by omega
  have c0a : ∀ o : Obj, (w.alloc o).cell? ⟨n0 + 1, 0, none⟩ = some (.slice A (k : Nat) cap) := fun o => (World.cell?_of_block (Below.heap_alloc w o _ HB1.out.lt)).trans (HB1.out.cell 0)
  have c1a : ∀ o : Obj, (w.alloc o).cell? ⟨n0, 0, none⟩ = some (.pointer (some ⟨pp, 0, none⟩)) := fun o => (World.cell?_of_block (Below.heap_alloc w o _ HPX.out.lt)).trans (HPX.out.cell 0)
  have HPa : Hid (∀ o : Obj, Ps (w.alloc o).drew pp t a r) := Lib.hid (fun o => (Below.heap_alloc w o pp HPd.out.lt).trans HPd.out)
  go_region_law (first
    | (refine step_append_lies _ (by rfl) _ _ 24 (by rfl) (n0 + 2) 27 i0 _ 5 80 Tryz.underlying24 hi hz0 hz1 hz2 rfl (by decide) (.slice A (k : Nat) cap) k rows.flatten (by rfl) (HO4.out.alloc _)
        ⟨w4.heap.size, 0, none⟩ 1 1 [.int .i64 0, .bool false, .string ⟨#[]⟩, .slice none 0 0, .slice none 0 0] (by rfl) (by rfl) (World.news_of_block (cs := #[.int .i64 0, .bool false, .string ⟨#[]⟩, .slice none 0 0, .slice none 0 0]) (t := 27) (fr := (0, 0)) (heap_alloc_new w4 _)) (by intro u hu; simp at hu; rcases hu with rfl | rfl | rfl | rfl <;> rfl)
        (by omega) (by have := HN.out; unfold maxLen; omega) (by have := HN.out; omega) (by have := hgw.size; have := HN.out; simp; omega) (w4.heap.size + 1) (by simp) ?_; intro gg cap9 wz hownz hgrow hat hlt9; have hgz : w4.grownBy wz (Value.slice A k cap).ownBlock := (World.grownBy_alloc w4 _ _).trans hgrow; have hgg := row_base hownz gg rfl; have b1z : Blk wz (n0 + 1) 24 #[.slice A (k : Nat) cap] := (HB1.out.grown hgw (fun e => by injection e; omega)).grown hgz (fun e => by have := row_base HO.out _ e.symm; omega); have c0z := b1z.cell 0; have f0z := Lib.frozen_of_heap b1z 0; have hgne : ¬ gg = n0 + 1 := (by omega); have hgne' : ¬ n0 + 1 = gg := (by omega)
       obtain ⟨hrow5, hsome, hfz⟩ := row_last hownz HXS.out (.int .i64 v.kind) (.bool v.yes) (.string (mk v.text)) (.slice A' (v.list.length : Nat) ca') (.slice B' (v.mem.length : Nat) cb')
       obtain ⟨q0, hq0⟩ := Option.isSome_iff_exists.1 (hsome 0 (by decide)); obtain ⟨q1, hq1⟩ := Option.isSome_iff_exists.1 (hsome 1 (by decide)); obtain ⟨q2, hq2⟩ := Option.isSome_iff_exists.1 (hsome 2 (by decide)); obtain ⟨q3, hq3⟩ := Option.isSome_iff_exists.1 (hsome 3 (by decide)); obtain ⟨q4, hq4⟩ := Option.isSome_iff_exists.1 (hsome 4 (by decide))
       rw [Nat.add_zero] at hq0
       have hf0 := hfz (k * 5); have hf1 := hfz (k * 5 + 1); have hf2 := hfz (k * 5 + 2); have hf3 := hfz (k * 5 + 3); have hf4 := hfz (k * 5 + 4)
       have HR5 := Lib.hid hrow5; have HGZ := Lib.hid hgz; have HB1Z := Lib.hid b1z
       have HAT : Hid ((Value.slice A k cap).ownBlock = some gg ∨ w4.heap.size ≤ gg) := Lib.hid (hat.imp id (fun e => by omega)); have HGW := Lib.hid hgw
       clear hrow5 hsome hfz hownz hat b1z hgz hgw)
    | (refine step_append_lies _ (by rfl) _ _ 24 (by rfl) (n0 + 2) 27 i0 _ 5 80 Tryz.underlying24 hi hz0 hz1 hz2 rfl (by decide) (.slice A (k : Nat) cap) k rows.flatten (by rfl) HO4.out
        ⟨w.heap.size, 0, none⟩ 1 1 [.int .i64 0, .bool false, .string ⟨#[]⟩, .slice none 0 0, .slice none 0 0] (by rfl) (by rfl) (World.news_of_block (cs := #[.int .i64 0, .bool false, .string ⟨#[]⟩, .slice none 0 0, .slice none 0 0]) (t := 27) (fr := (0, 0)) ((hg4.block w.heap.size (by simp) (fun e => by injection e with e; have := HPd.out.lt; simp at this; omega)).trans (heap_alloc_new w _))) (by intro u hu; simp at hu; rcases hu with rfl | rfl | rfl | rfl <;> rfl)
        (by omega) (by have := HN.out; unfold maxLen; omega) (by have := HN.out; omega) (by have := hgw.size; have := HN.out; omega) w4.heap.size rfl ?_; intro gg cap9 wz hownz hgz hat hlt9; have hgg := row_base hownz gg rfl; have b1z : Blk wz (n0 + 1) 24 #[.slice A (k : Nat) cap] := (HB1.out.grown hgw (fun e => by injection e; omega)).grown hgz (fun e => by have := row_base HO.out _ e.symm; omega); have c0z := b1z.cell 0; have f0z := Lib.frozen_of_heap b1z 0; have hgne : ¬ gg = n0 + 1 := (by omega); have hgne' : ¬ n0 + 1 = gg := (by omega)
       obtain ⟨hrow5, hsome, hfz⟩ := row_last hownz HXS.out (.int .i64 v.kind) (.bool v.yes) (.string (mk v.text)) (.slice A' (v.list.length : Nat) ca') (.slice B' (v.mem.length : Nat) cb')
       obtain ⟨q0, hq0⟩ := Option.isSome_iff_exists.1 (hsome 0 (by decide)); obtain ⟨q1, hq1⟩ := Option.isSome_iff_exists.1 (hsome 1 (by decide)); obtain ⟨q2, hq2⟩ := Option.isSome_iff_exists.1 (hsome 2 (by decide)); obtain ⟨q3, hq3⟩ := Option.isSome_iff_exists.1 (hsome 3 (by decide)); obtain ⟨q4, hq4⟩ := Option.isSome_iff_exists.1 (hsome 4 (by decide))
       rw [Nat.add_zero] at hq0
       have hf0 := hfz (k * 5); have hf1 := hfz (k * 5 + 1); have hf2 := hfz (k * 5 + 2); have hf3 := hfz (k * 5 + 3); have hf4 := hfz (k * 5 + 4)
       have HR5 := Lib.hid hrow5; have HGZ := Lib.hid hgz; have HB1Z := Lib.hid b1z
       have HAT : Hid ((Value.slice A k cap).ownBlock = some gg ∨ w4.heap.size ≤ gg) := Lib.hid (hat.imp id (fun e => by omega)); have HGW := Lib.hid hgw
       clear hrow5 hsome hfz hownz hat b1z hgz hgw)
    | (go_simp; go_at_call 56; first | refine (HV.out _ HPd.out).mono ?_ | refine (HV.out _ (HPa.out _)).mono ?_
       rintro e w4 ⟨val, rfl, hho, hp4, hg4⟩
       obtain ⟨A', ca', B', cb', rfl, hrest⟩ := id hho
       have HHO : Hid (HoldsP (fun k => w.heap.size ≤ k) w4 _ v) := Lib.hid (hho.mono (fun k hk _ => by simp at hk; omega))
       have HP4 := Lib.hid hp4
       clear hrest hho
       have hgw : G pp w w4 := by first | exact (G.drew pp (G.refl pp w)).trans hg4 | exact (G.drew pp (World.grownBy_alloc w _ _)).trans hg4
       have b14 := HB1.out.grown hgw (fun e => by injection e; omega)
       have c04 := b14.cell 0
       have c04a : ∀ o : Obj, (w4.alloc o).cell? ⟨n0 + 1, 0, none⟩ = some (.slice A (k : Nat) cap) := fun o => (World.cell?_of_block (Below.heap_alloc w4 o _ b14.lt)).trans (b14.cell 0)
       have HO4 := Lib.hid (HO.out.kept hgw (.inr (fun e => by have := row_base HO.out pp e; omega)))))
  all_goals
    go_wp2
    go_end0
    refine ⟨rfl, ?_⟩
    try rw [set_swap _ _ _ hgne', set_swap _ _ _ hgne', set_swap _ _ _ hgne', set_swap _ _ _ hgne', set_swap _ _ _ hgne']
    exact list_fin HS.out HN.out.2.1 HB1.out HO.out HR.out HHh.out HGW.out HP4.out HGZ.out HAT.out HR5.out HHO.out hv
theorem row_at {w : World} {B k : Nat} {A : Option Addr} {cap : Nat} {rows : List (List Value)} (h : w.ownsRow B 27 5 (.slice A (k : Nat) cap) k rows.flatten) (hlen : rows.length = k) (hrows : ∀ row ∈ rows, row.length = 5 ∧ ∀ u ∈ row, u.oneCell' = true) {i : Nat} {row : List Value} (hi : rows[i]? = some row) :
    ∃ g, A = some ⟨g, 0, none⟩ ∧ B ≤ g ∧ g < w.heap.size ∧ ∀ j x, row[j]? = some x → w.cell? ⟨g, i * 5 + j, none⟩ = some x := by
  have hik : i < rows.length := (List.getElem?_eq_some_iff.1 hi).1
  have hr5 := (hrows row (List.mem_of_getElem? hi)).1
  rcases h.2 with ⟨_, h0⟩ | ⟨g, cap', cur, e, hb, hg, _⟩
  · omega
  · injection e with e1 e2 e3
    refine ⟨g, e1, hb, (show Blk w g _ cur from hg).lt, fun j x hx => ?_⟩
    have hj : j < 5 := by have := (List.getElem?_eq_some_iff.1 hx).1; omega
    have hfl : ∀ (rs : List (List Value)) (i : Nat), (∀ r ∈ rs, r.length = 5) → rs[i]? = some row → rs.flatten[i * 5 + j]? = some x := by
      intro rs
      induction rs with
      | nil => intro i _ h; simp at h
      | cons r0 rs ih =>
        intro i hr h
        have h0 := hr r0 (by simp)
        cases i with
        | zero =>
          simp only [List.getElem?_cons_zero, Option.some.injEq] at h
          subst h
          rw [List.flatten_cons, List.getElem?_append_left (by omega)]
          simpa using hx
        | succ i =>
          rw [List.getElem?_cons_succ] at h
          rw [List.flatten_cons, List.getElem?_append_right (by omega), h0, show (i + 1) * 5 + j - 5 = i * 5 + j by omega]
          exact ih i (fun r hr' => hr r (by simp [hr'])) h
    have := h.cells (g := g) (by rw [e1]; rfl) (i * 5 + j) x (hfl rows i (fun r hr => (hrows r hr).1) hi)
    rwa [Addr.add_mid, Nat.zero_add] at this
set_option maxHeartbeats 2000000 in
/-- An array's values are read. -/
theorem list_any (t : List UInt8) (pp d a r n b : Nat) (p q s : Nat → Nat) (vs : List V) (w : World) (hp : Ps w pp t a (r + 1)) (hr : d ≤ r) (hr1 : r ≤ 99999) (hn : vs.length = n) (hn1 : n ≤ 100000) (hl : t.length ≤ 100000) (he : Elems t 93 a n p q s b) (hval : ∀ k v, vs[k]? = some v → ValC t d (p k) v (q k)) :
    Calls Tryz.prog 75 #[.pointer (some ⟨pp, 0, none⟩)] w fun e w' => ∃ A c, e = .returned (.slice A (n : Nat) c) ∧ (0 < n → A.isSome = true) ∧ (∀ i v, vs[i]? = some v → RdP (fun k => w.heap.size ≤ k) w' ((A.getD default).add (i * 5)) v) ∧ Ps w' pp t b (r + 1) ∧ G pp w w' := by
  have hpl := hp.lt
  obtain ⟨w1, hw1⟩ : ∃ w1, w1 = (w.alloc (.cells #[.pointer (some ⟨pp, 0, none⟩)] 92)).alloc (.cells #[.slice none 0 0] 24) := ⟨_, rfl⟩
  have hb1 : Below w.heap.size w w1 := by rw [hw1]; exact ((Below.refl _ w).alloc (Nat.le_refl _) _).alloc (by simp) _
  have hls : LS w pp w.heap.size vs 0 w1 := by
    refine ⟨?_, ⟨.slice none 0 0, [], ?_, World.ownsRow_nil _ _ _ _, rfl, (fun row h => by cases h), (fun i row v h => by simp at h)⟩, G.of_below hb1, hpl, Nat.le_refl _⟩
    · rw [hw1]
      exact (Below.heap_alloc _ _ _ (by simp)).trans (heap_alloc_new w _)
    · rw [hw1]
      have := heap_alloc_new (w.alloc (.cells #[.pointer (some ⟨pp, 0, none⟩)] 92)) (.cells #[.slice none 0 0] 24)
      rw [World.size_alloc] at this
      exact this
  have HE := Lib.hid (elements_any pp t a r n b p q s 93 98 #[.pointer (some ⟨w.heap.size + 1, 0, none⟩), .pointer (some ⟨w.heap.size, 0, none⟩)] (LS w pp w.heap.size vs) w1 (hp.below hb1) (by omega) (by decide) hl he (enters_of Tryz.func98 (by kernel_rfl) rfl)
    (fun k w w' x rm h _ hg => h.keep hg) hls (fun k w2 hk h1 h2 => by
      obtain ⟨v, hv⟩ : ∃ v, vs[k]? = some v := ⟨_, List.getElem?_eq_getElem (by omega)⟩
      exact list1_any t pp w.heap.size d (p k) r (q k) k vs v w w2 h1 h2 hr (by omega) (by omega) hv (hval k v hv)))
  have hmf : ∀ (fn : Fn) (first cap : Array Value) (w : World), (Instr.makeFunc fn first cap).run Tryz.prog w = .ok (.func fn first cap) w := fun _ _ _ _ => rfl
  have HN := Lib.hid hn
  clear hp hr hr1 hn hn1 hl he hval hb1 hls hpl
  go_enter Tryz.func75, Tryz.ntmps75
  go_wp2_with fail
  rw [← hw1]
  clear hw1
  refine HE.out.mono ?_
  rintro e w2 ⟨rfl, hs, hp2⟩
  obtain ⟨lv, rows, b1, ow, hlen, hrows, hh⟩ := hs.lbox
  have HG := Lib.hid hs.g
  have HP := Lib.hid hp2
  obtain ⟨A, cap, rfl⟩ : ∃ A c, lv = .slice A (n : Nat) c := by
    rcases ow.2 with ⟨rfl, h0⟩ | ⟨g, cap, cur, rfl, _⟩
    · exact ⟨none, 0, by rw [h0]⟩
    · exact ⟨_, _, rfl⟩
  have c0 := b1.cell 0
  have HA : Hid ((0 < n → A.isSome = true) ∧ ∀ i v, vs[i]? = some v → RdP (fun k => w.heap.size ≤ k) w2 ((A.getD default).add (i * 5)) v) := Lib.hid (by
    have hat : ∀ i v, vs[i]? = some v → ∃ g, A = some ⟨g, 0, none⟩ ∧ RdP (fun k => w.heap.size ≤ k) w2 ((⟨g, 0, none⟩ : Addr).add (i * 5)) v := by
      intro i v hv
      have hin : i < rows.length := by have := (List.getElem?_eq_some_iff.1 hv).1; have := HN.out; omega
      obtain ⟨row, hrow⟩ : ∃ row, rows[i]? = some row := ⟨_, List.getElem?_eq_getElem hin⟩
      obtain ⟨g, hg, hgb, _, hcell⟩ := row_at ow hlen hrows hrow
      obtain ⟨A', ca', B', cb', hval, h1, h2, h3, h4, h5⟩ := hh i row v hrow hv
      injection hval with hval
      have hrw : row = [.int .i64 v.kind, .bool v.yes, .string (mk v.text), .slice A' (v.list.length : Nat) ca', .slice B' (v.mem.length : Nat) cb'] := by
        have := congrArg Array.toList hval
        simpa using this
      rw [hrw] at hcell
      refine ⟨g, hg, ?_⟩
      rw [Addr.add_mid, Nat.zero_add]
      have hadd : ∀ n, n ≠ 0 → (⟨g, i * 5, none⟩ : Addr).add n = ⟨g, i * 5 + n, none⟩ := fun n _ => Addr.add_mid ..
      cases v with
      | mk k y tx l m =>
        refine .mk _ k y tx l m A' ca' B' cb' (by show w.heap.size ≤ g; omega) (hcell 0 _ rfl) ?_ ?_ ?_ ?_ h1 h2 (fun i x hx => (h3 i x hx).mono (fun q hq _ => hq.2.2.2.2)) h4 (fun i x hx => (h5 i x hx).mono (fun q hq _ => hq.2.2.2.2))
        · rw [hadd 1 (by decide)]; exact hcell 1 _ rfl
        · rw [hadd 2 (by decide)]; exact hcell 2 _ rfl
        · rw [hadd 3 (by decide)]; exact hcell 3 _ rfl
        · rw [hadd 4 (by decide)]; exact hcell 4 _ rfl
    refine ⟨fun h => ?_, fun i v hv => ?_⟩
    · obtain ⟨v, hv⟩ : ∃ v, vs[0]? = some v := ⟨_, List.getElem?_eq_getElem (by have := HN.out; omega)⟩
      obtain ⟨g, hg, _⟩ := hat 0 v hv
      rw [hg]; rfl
    · obtain ⟨g, hg, h⟩ := hat i v hv
      rw [hg]
      exact h)
  clear hs hp2 ow hlen hrows hh b1 HE
  go_wp2
  go_ret
  exact ⟨A, cap, rfl, HA.out.1, HA.out.2, HP.out, HG.out⟩
end Go.Proofs.YtkenananejgcpaaGreatDoor.Jsn
