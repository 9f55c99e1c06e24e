/-
  members: an object's members are read. (Written by gen_pa8.py out of list's text.)
-/
import Derived.Test.YtkenananejgcpaaGreatDoorJPa7
namespace Go.Proofs.YtkenananejgcpaaGreatDoor.Jsn
open Go.RowKit Txt Go.Maps
attribute [local go_sem] Oper.semAt_some
theorem SetAt.keptG {w w' : World} {pp b : Nat} {ns : List (List UInt8)} (h : SetAt w b ns) (hg : G pp w w') (hb : b ≠ pp) : SetAt w' b ns := by
  obtain ⟨es, clock, hh, F, hs, hD⟩ := h
  exact ⟨es, clock, (hg.block b (Array.getElem?_eq_some_iff.1 hh).1 (fun e => hb (by injection e))).trans hh, F, hs, hD⟩
theorem SetAt.keptB {w w' : World} {b : Nat} {ns : List (List UInt8)} (h : SetAt w b ns) (hg : w'.heap[b]? = w.heap[b]?) : SetAt w' b ns := by
  obtain ⟨es, clock, hh, F, hs, hD⟩ := h
  exact ⟨es, clock, hg.trans hh, F, hs, hD⟩
theorem SetAt.lt {w : World} {b : Nat} {ns : List (List UInt8)} (h : SetAt w b ns) : b < w.heap.size := by
  obtain ⟨es, clock, hh, -⟩ := h
  exact (Array.getElem?_eq_some_iff.1 hh).1
theorem info_member : (Tryz.prog.info? 37).map (fun i => (i.zero, i.size, i.bytes)) = some (some (.agg #[.string ⟨#[]⟩, .int .i64 0, .bool false, .string ⟨#[]⟩, .slice none 0 0, .slice none 0 0]), 6, 96) := by kernel_rfl
/-- The members that were read so far. -/
structure MS (w0 : World) (pp n0 : Nat) (ms : List M) (ns : List (List UInt8)) (k : Nat) (w : World) : Prop where
  pbox : Blk w n0 92 #[.pointer (some ⟨pp, 0, none⟩)]
  mbox : Blk w (n0 + 3) 115 #[.map (some (n0 + 2))]
  set : SetAt w (n0 + 2) ns
  lbox : ∃ (lv : Value) (rows : List (List Value)), Blk w (n0 + 1) 25 #[lv] ∧ w.ownsRow (n0 + 4) 37 6 lv k rows.flatten ∧ rows.length = k ∧ (∀ row ∈ rows, row.length = 6 ∧ ∀ u ∈ row, u.oneCell' = true) ∧ ∀ (i : Nat) (row : List Value) (m : M), rows[i]? = some row → ms[i]? = some m → ∃ r5, row = .string (mk m.name) :: r5 ∧ HoldsP (fun q => q ≠ pp ∧ (q < n0 ∨ n0 + 4 ≤ q) ∧ lv.ownBlock ≠ some q ∧ w0.heap.size ≤ q) w (.agg r5.toArray) m.val
  g : G pp w0 w
  lt : pp < n0
  le : w0.heap.size ≤ n0
theorem rows_len6 (rows : List (List Value)) (h : ∀ row ∈ rows, row.length = 6 ∧ ∀ u ∈ row, u.oneCell' = true) : rows.flatten.length = rows.length * 6 := by
  induction rows with
  | nil => rfl
  | cons x l ih =>
    have := (h x (by simp)).1
    have := ih (fun r hr => h r (by simp [hr]))
    simp only [List.flatten_cons, List.length_append, List.length_cons]
    omega
theorem MS.keep {w0 : World} {pp n0 : Nat} {ms : List M} {ns : List (List UInt8)} {k : Nat} {w w' : World} (h : MS w0 pp n0 ms ns k w) (hg : G pp w w') : MS w0 pp n0 ms ns k w' := by
  obtain ⟨lv, rows, h1, h2, h3, h4, h5⟩ := h.lbox
  have hlt := h.lt
  refine ⟨h.pbox.grown hg (fun e => by injection e; omega), h.mbox.grown hg (fun e => by injection e; omega), h.set.keptG hg (by omega), ⟨lv, rows, h1.grown hg (fun e => by injection e; omega), h2.kept hg (.inr (fun e => by have := row_base h2 pp e; omega)), h3, h4, fun i row v hr hv => ?_⟩, h.g.trans hg, h.lt, h.le⟩
  obtain ⟨r5, e, hh⟩ := h5 i row v hr hv
  exact ⟨r5, e, hh.kept (fun k hk hl => hg.block k hl (fun e => hk.1 (by injection e)))⟩
/-- The last element of a row is written. -/
theorem row_last6 {w : World} {B g cap k : Nat} {xs zs : List Value} (h : w.ownsRow B 37 6 (.slice (some ⟨g, 0, none⟩) (k + 1 : Nat) cap) (k + 1) (xs ++ zs)) (hx : xs.length = k * 6) (x0 x1 x2 x3 x4 x5 : Value) :
    ((((((w.setCell ⟨g, k * 6, none⟩ x0).setCell ⟨g, k * 6 + 1, none⟩ x1).setCell ⟨g, k * 6 + 2, none⟩ x2).setCell ⟨g, k * 6 + 3, none⟩ x3).setCell ⟨g, k * 6 + 4, none⟩ x4).setCell ⟨g, k * 6 + 5, none⟩ x5).ownsRow B 37 6 (.slice (some ⟨g, 0, none⟩) (k + 1 : Nat) cap) (k + 1) (xs ++ [x0, x1, x2, x3, x4, x5]) ∧
    (∀ j, j < 6 → (w.cell? ⟨g, k * 6 + j, none⟩).isSome = true) ∧ (∀ j, w.frozen? ⟨g, j, none⟩ = false) := by
  obtain ⟨h1, h2⟩ := h
  rcases h2 with ⟨e, _⟩ | ⟨g', cap', cur, e, hb, hh, hc, hm, hs, ht⟩
  · cases e
  injection e with e1 e2 e3
  injection e1 with e1
  injection e1 with e1
  subst e1 e3
  have hB : Blk w g 37 cur := hh
  have hB5 := blk_set (blk_set (blk_set (blk_set (blk_set (blk_set hB (k * 6) x0) (k * 6 + 1) x1) (k * 6 + 2) x2) (k * 6 + 3) x3) (k * 6 + 4) x4) (k * 6 + 5) x5
  refine ⟨⟨by simp [hx]; omega, .inr ⟨g, cap, _, rfl, hb, hB5, hc, hm, by simpa using hs, ?_⟩⟩, fun j hj => ?_, fun j => Lib.frozen_of_heap hh j⟩
  · apply List.ext_getElem?
    intro i
    have hi := congrArg (fun l : List Value => l[i]?) ht
    change (List.take _ _)[i]? = _ at hi
    by_cases hlt : i < (k + 1) * 6
    · rw [List.getElem?_take_of_lt hlt] at hi ⊢
      simp only [Array.getElem?_toList, Array.getElem?_setIfInBounds, Array.size_setIfInBounds] at hi ⊢
      by_cases hlo : i < k * 6
      · rw [List.getElem?_append_left (by omega)] at hi ⊢
        simp only [show ¬ (k * 6 + 5 = i) by omega, show ¬ (k * 6 + 4 = i) by omega, show ¬ (k * 6 + 3 = i) by omega, show ¬ (k * 6 + 2 = i) by omega, show ¬ (k * 6 + 1 = i) by omega, show ¬ (k * 6 = i) by omega, if_false]
        exact hi
      · rw [List.getElem?_append_right (by omega), hx]
        have : i = k * 6 ∨ i = k * 6 + 1 ∨ i = k * 6 + 2 ∨ i = k * 6 + 3 ∨ i = k * 6 + 4 ∨ i = k * 6 + 5 := by omega
        rcases this with rfl | rfl | rfl | rfl | rfl | rfl
        all_goals
          have hsz : (k + 1) * 6 ≤ cur.size := by rw [hs]; exact Nat.mul_le_mul_right 6 hc
          simp
          omega
    · rw [List.getElem?_take_eq_none (by omega), List.getElem?_eq_none (by simp [hx]; omega)]
  · rw [hB.cell, Array.getElem?_eq_getElem (by rw [hs]; have := Nat.mul_le_mul_right 6 hc; omega)]
    rfl
/-- One more value was read. -/
theorem mem_fin {w0 w w4 wz : World} {pp n0 k gg cap cap9 b r : Nat} {A : Option Addr} {t : List UInt8} {ms : List M} {ns : List (List UInt8)} {m : M} {rows : List (List Value)} {A' B' : Option Addr} {ca' cb' : Nat}
    (hs : MS w0 pp n0 ms ns k w) (hlen : rows.length = k) (b1 : Blk w (n0 + 1) 25 #[.slice A (k : Nat) cap]) (ow : w.ownsRow (n0 + 4) 37 6 (.slice A (k : Nat) cap) k rows.flatten) (hrows : ∀ row ∈ rows, row.length = 6 ∧ ∀ u ∈ row, u.oneCell' = true)
    (hh : ∀ (i : Nat) (row : List Value) (m : M), rows[i]? = some row → ms[i]? = some m → ∃ r5, row = .string (mk m.name) :: r5 ∧ HoldsP (fun q => q ≠ pp ∧ (q < n0 ∨ n0 + 4 ≤ q) ∧ (Value.slice A k cap).ownBlock ≠ some q ∧ w0.heap.size ≤ q) w (.agg r5.toArray) m.val)
    (hgw : G pp w w4) (hp4 : Ps w4 pp t b r) (hgz : w4.grownBy wz (Value.slice A k cap).ownBlock) (hat : (Value.slice A k cap).ownBlock = some gg ∨ w4.heap.size ≤ gg)
    (hr5 : ((((((wz.setCell ⟨gg, k * 6, none⟩ (.string (mk m.name))).setCell ⟨gg, k * 6 + 1, none⟩ (.int .i64 m.val.kind)).setCell ⟨gg, k * 6 + 2, none⟩ (.bool m.val.yes)).setCell ⟨gg, k * 6 + 3, none⟩ (.string (mk m.val.text))).setCell ⟨gg, k * 6 + 4, none⟩ (.slice A' (m.val.list.length : Nat) ca')).setCell ⟨gg, k * 6 + 5, none⟩ (.slice B' (m.val.mem.length : Nat) cb')).ownsRow (n0 + 4) 37 6 (.slice (some ⟨gg, 0, none⟩) (k + 1 : Nat) cap9) (k + 1) (rows.flatten ++ [.string (mk m.name), .int .i64 m.val.kind, .bool m.val.yes, .string (mk m.val.text), .slice A' (m.val.list.length : Nat) ca', .slice B' (m.val.mem.length : Nat) cb']))
    (hho : HoldsP (fun q => w.heap.size ≤ q) w4 (.agg #[.int .i64 m.val.kind, .bool m.val.yes, .string (mk m.val.text), .slice A' (m.val.list.length : Nat) ca', .slice B' (m.val.mem.length : Nat) cb']) m.val) (hv : ms[k]? = some m) :
    MS w0 pp n0 ms ns (k + 1) (((((((wz.setCell ⟨gg, k * 6, none⟩ (.string (mk m.name))).setCell ⟨gg, k * 6 + 1, none⟩ (.int .i64 m.val.kind)).setCell ⟨gg, k * 6 + 2, none⟩ (.bool m.val.yes)).setCell ⟨gg, k * 6 + 3, none⟩ (.string (mk m.val.text))).setCell ⟨gg, k * 6 + 4, none⟩ (.slice A' (m.val.list.length : Nat) ca')).setCell ⟨gg, k * 6 + 5, none⟩ (.slice B' (m.val.mem.length : Nat) cb')).setCell ⟨n0 + 1, 0, none⟩ (.slice (some ⟨gg, 0, none⟩) (k + 1 : Nat) cap9)) ∧
    Ps (((((((wz.setCell ⟨gg, k * 6, none⟩ (.string (mk m.name))).setCell ⟨gg, k * 6 + 1, none⟩ (.int .i64 m.val.kind)).setCell ⟨gg, k * 6 + 2, none⟩ (.bool m.val.yes)).setCell ⟨gg, k * 6 + 3, none⟩ (.string (mk m.val.text))).setCell ⟨gg, k * 6 + 4, none⟩ (.slice A' (m.val.list.length : Nat) ca')).setCell ⟨gg, k * 6 + 5, none⟩ (.slice B' (m.val.mem.length : Nat) cb')).setCell ⟨n0 + 1, 0, none⟩ (.slice (some ⟨gg, 0, none⟩) (k + 1 : Nat) cap9)) pp t b r := by
  have hgg : n0 + 4 ≤ gg := row_base hr5 gg rfl
  have hlt := hs.lt
  have hle := hs.le
  have hn1 : n0 + 1 < w.heap.size := b1.lt
  have hn3 : n0 + 3 < w.heap.size := hs.mbox.lt
  have hsz := hgw.size
  have hsz2 := hgz.size
  obtain ⟨W5, hW5⟩ : ∃ W5, W5 = (((((wz.setCell ⟨gg, k * 6, none⟩ (.string (mk m.name))).setCell ⟨gg, k * 6 + 1, none⟩ (.int .i64 m.val.kind)).setCell ⟨gg, k * 6 + 2, none⟩ (.bool m.val.yes)).setCell ⟨gg, k * 6 + 3, none⟩ (.string (mk m.val.text))).setCell ⟨gg, k * 6 + 4, none⟩ (.slice A' (m.val.list.length : Nat) ca')).setCell ⟨gg, k * 6 + 5, none⟩ (.slice B' (m.val.mem.length : Nat) cb') := ⟨_, rfl⟩
  have h5 : wz.grownBy W5 (some gg) := by
    rw [hW5]
    exact G.trans (G.trans (G.trans (G.trans (G.trans (turned _ gg _ _) (turned _ gg _ _)) (turned _ gg _ _)) (turned _ gg _ _)) (turned _ gg _ _)) (turned _ gg _ _)
  rw [← hW5] at hr5 ⊢
  clear hW5
  have hE := turned W5 (n0 + 1) 0 (.slice (some ⟨gg, 0, none⟩) (k + 1 : Nat) cap9)
  have hs5 := h5.size
  have hsE := hE.size
  have own2 : ∀ q, (Value.slice A k cap).ownBlock = some q → n0 + 4 ≤ q := fun q hq => row_base ow q hq
  -- what is not the row and not the box lies as it lay
  have key4 : ∀ q, q < w4.heap.size → q ≠ gg → q ≠ n0 + 1 → (Value.slice A k cap).ownBlock ≠ some q → (W5.setCell ⟨n0 + 1, 0, none⟩ (.slice (some ⟨gg, 0, none⟩) (k + 1 : Nat) cap9)).heap[q]? = w4.heap[q]? := fun q hq h1 h2 h3 => by
    rw [hE.block q (by omega) (fun e => h2 (by injection e)), h5.block q (by omega) (fun e => h1 (by injection e)), hgz.block q hq (fun e => h3 e.symm)]
  have key : ∀ q, q < w.heap.size → q ≠ pp → q ≠ gg → q ≠ n0 + 1 → (Value.slice A k cap).ownBlock ≠ some q → (W5.setCell ⟨n0 + 1, 0, none⟩ (.slice (some ⟨gg, 0, none⟩) (k + 1 : Nat) cap9)).heap[q]? = w.heap[q]? := fun q hq h0 h1 h2 h3 => by
    rw [key4 q (by omega) h1 h2 h3, hgw.block q hq (fun e => h0 (by injection e))]
  have hpb := hs.pbox
  have hnpp : pp < w4.heap.size := hp4.lt
  have notown : ∀ q, q < n0 + 4 → (Value.slice A k cap).ownBlock ≠ some q := fun q hq e => by have := own2 q e; omega
  refine ⟨⟨(key n0 hpb.lt (by omega) (by omega) (by omega) (notown _ (by omega))).trans hpb, (key (n0 + 3) hs.mbox.lt (by omega) (by omega) (by omega) (notown _ (by omega))).trans hs.mbox, hs.set.keptB (key (n0 + 2) hs.set.lt (by omega) (by omega) (by omega) (notown _ (by omega))), ⟨.slice (some ⟨gg, 0, none⟩) (k + 1 : Nat) cap9, rows ++ [[.string (mk m.name), .int .i64 m.val.kind, .bool m.val.yes, .string (mk m.val.text), .slice A' (m.val.list.length : Nat) ca', .slice B' (m.val.mem.length : Nat) cb']], ?_, ?_, by simp [hlen], ?_, ?_⟩, ?_, hlt, hle⟩, ?_⟩
  · have b5 : Blk W5 (n0 + 1) 25 #[.slice A (k : Nat) cap] := ((b1.grown hgw (fun e => by injection e; omega)).grown hgz (fun e => notown _ (by omega) e.symm)).grown h5 (fun e => by injection e; omega)
    exact blk_set b5 0 _
  · rw [List.flatten_append]
    simp only [List.flatten_cons, List.flatten_nil, List.append_nil]
    exact hr5.kept hE (.inr (by simp [Value.ownBlock]; omega))
  · intro row hrow
    rcases List.mem_append.1 hrow with hrow | hrow
    · exact hrows row hrow
    · rw [List.mem_singleton.1 hrow]
      exact ⟨rfl, by intro u hu; simp at hu; rcases hu with rfl | rfl | rfl | rfl | rfl | rfl <;> rfl⟩
  · intro i row m' hi hv'
    have hgn : ∀ q, q < w.heap.size → (Value.slice A k cap).ownBlock ≠ some q → q ≠ gg := fun q hq h1 e => by
      rcases hat with h | h
      · exact h1 (by rw [h, e])
      · omega
    by_cases hik : i < k
    · rw [List.getElem?_append_left (by omega)] at hi
      obtain ⟨r5, er, hho'⟩ := hh i row m' hi hv'
      refine ⟨r5, er, (hho'.mono (Pe := fun q => q ≠ pp ∧ (q < n0 ∨ n0 + 4 ≤ q) ∧ (q ≠ gg ∧ (Value.slice A k cap).ownBlock ≠ some q) ∧ w0.heap.size ≤ q) (fun q hq hl => ⟨hq.1, hq.2.1, ⟨hgn q hl hq.2.2.1, hq.2.2.1⟩, hq.2.2.2⟩)).kept (fun q hq hl => key q hl hq.1 hq.2.2.1.1 (by have := hq.2.1; omega) hq.2.2.1.2) |>.mono ?_⟩
      intro q hq _
      exact ⟨hq.1, hq.2.1, by simp [Value.ownBlock]; exact fun e => hq.2.2.1.1 e.symm, hq.2.2.2⟩
    · rw [List.getElem?_append_right (by omega), hlen] at hi
      have hk' : i = k := by
        by_cases h : i - k = 0
        · omega
        · rw [List.getElem?_eq_none (by simp; omega)] at hi; cases hi
      subst hk'
      rw [Nat.sub_self] at hi
      simp only [List.getElem?_cons_zero, Option.some.injEq] at hi
      subst hi
      rw [hv] at hv'
      injection hv' with hv'
      subst hv'
      have hown4 : ∀ q, (Value.slice A i cap).ownBlock = some q → q < w.heap.size := fun q hq => by
        rcases ow.2 with ⟨e, _⟩ | ⟨g, cap', cur, e, _, hg, _⟩
        · rw [e] at hq; simp [Value.ownBlock] at hq
        · rw [e] at hq; simp only [Value.ownBlock, Option.some.injEq] at hq; subst hq; exact (show Blk w g _ cur from hg).lt
      refine ⟨_, rfl, ((hho.mono (Pe := fun q => w.heap.size ≤ q ∧ q ≠ gg) (fun q hq hl => ⟨hq, fun e => ?_⟩)).kept (fun q hq hl => key4 q hl hq.2 (by have := hq.1; omega) (fun e => by have := hown4 q e; have := hq.1; omega))).mono ?_⟩
      · rcases hat with h | h
        · have := hown4 gg h; omega
        · omega
      · intro q hq _
        refine ⟨by have := hq.1; omega, by have := hq.1; omega, by simp [Value.ownBlock]; exact fun e => hq.2 e.symm, by have := hq.1; omega⟩
  · have hgg4 := hs.g.trans hgw
    have hg0 := hs.g.size
    exact ⟨(hE.os.trans (h5.os.trans hgz.os)).trans hgg4.os, (hE.tape.trans (h5.tape.trans hgz.tape)).trans hgg4.tape, (hE.output.trans (h5.output.trans hgz.output)).trans hgg4.output, by omega, fun q hq hn =>
      (key4 q (by omega) (by omega) (by omega) (notown _ (by omega))).trans (hgg4.block q hq hn)⟩
  · exact (key4 pp hnpp (by omega) (by omega) (notown _ (by omega))).trans hp4
theorem row_at6 {w : World} {B k : Nat} {A : Option Addr} {cap : Nat} {rows : List (List Value)} (h : w.ownsRow B 37 6 (.slice A (k : Nat) cap) k rows.flatten) (hlen : rows.length = k) (hrows : ∀ row ∈ rows, row.length = 6 ∧ ∀ u ∈ row, u.oneCell' = true) {i : Nat} {row : List Value} (hi : rows[i]? = some row) :
    ∃ g, A = some ⟨g, 0, none⟩ ∧ B ≤ g ∧ g < w.heap.size ∧ ∀ j x, row[j]? = some x → w.cell? ⟨g, i * 6 + j, none⟩ = some x := by
  have hik : i < rows.length := (List.getElem?_eq_some_iff.1 hi).1
  have hr5 := (hrows row (List.mem_of_getElem? hi)).1
  rcases h.2 with ⟨_, h0⟩ | ⟨g, cap', cur, e, hb, hg, _⟩
  · omega
  · injection e with e1 e2 e3
    refine ⟨g, e1, hb, (show Blk w g _ cur from hg).lt, fun j x hx => ?_⟩
    have hj : j < 6 := by have := (List.getElem?_eq_some_iff.1 hx).1; omega
    have hfl : ∀ (rs : List (List Value)) (i : Nat), (∀ r ∈ rs, r.length = 6) → rs[i]? = some row → rs.flatten[i * 6 + j]? = some x := by
      intro rs
      induction rs with
      | nil => intro i _ h; simp at h
      | cons r0 rs ih =>
        intro i hr h
        have h0 := hr r0 (by simp)
        cases i with
        | zero =>
          simp only [List.getElem?_cons_zero, Option.some.injEq] at h
          subst h
          rw [List.flatten_cons, List.getElem?_append_left (by omega)]
          simpa using hx
        | succ i =>
          rw [List.getElem?_cons_succ] at h
          rw [List.flatten_cons, List.getElem?_append_right (by omega), h0, show (i + 1) * 6 + j - 6 = i * 6 + j by omega]
          exact ih i (fun r hr' => hr r (by simp [hr'])) h
    have := h.cells (g := g) (by rw [e1]; rfl) (i * 6 + j) x (hfl rows i (fun r hr => (hrows r hr).1) hi)
    rwa [Addr.add_mid, Nat.zero_add] at this
end Go.Proofs.YtkenananejgcpaaGreatDoor.Jsn
