/-
  A value's copy in the making: what is done lies in new memory, what waits is told by its place, its own cells new, what is in it old.
  A value's copy in the making: the rows that a copy lays, and what holds from round to round.
  A value's copy in the making: one value is taken off the list, and given back done, those in it put on.
-/
import Derived.Test.YtkenananejgcpaaGreatDoorJStk
import Derived.Test.YtkenananejgcpaaGreatDoorJPa7
namespace Go.Proofs.YtkenananejgcpaaGreatDoor.Jsn
open Go.RowKit Txt
abbrev VT : TypeId := 27
abbrev MT : TypeId := 37
/-- A place for a value. -/
def Place (n0 : Nat) (W : World) (a : Addr) : Prop := a.spot = none ∧ n0 ≤ a.block ∧ ∃ cs, (Blk W a.block VT cs ∧ a.off % 5 = 0 ∧ a.off + 5 ≤ cs.size) ∨ (Blk W a.block MT cs ∧ a.off % 6 = 1 ∧ a.off + 5 ≤ cs.size)
/-- The five cells of a value. -/
structure Five (W : World) (a : Addr) (v : V) (A : Option Addr) (ca : Nat) (B : Option Addr) (cb : Nat) : Prop where
  c0 : W.cell? ⟨a.block, a.off, none⟩ = some (.int .i64 v.kind)
  c1 : W.cell? ⟨a.block, a.off + 1, none⟩ = some (.bool v.yes)
  c2 : W.cell? ⟨a.block, a.off + 2, none⟩ = some (.string (mk v.text))
  c3 : W.cell? ⟨a.block, a.off + 3, none⟩ = some (.slice A (v.list.length : Nat) ca)
  c4 : W.cell? ⟨a.block, a.off + 4, none⟩ = some (.slice B (v.mem.length : Nat) cb)
/-- What is in a value, as it was handed in. -/
structure Src (W0 : World) (v : V) (A : Option Addr) (B : Option Addr) : Prop where
  hA : 0 < v.list.length → A.isSome = true
  hB : 0 < v.mem.length → B.isSome = true
  hl : ∀ i x, v.list[i]? = some x → Reads W0 ((A.getD default).add (i * 5)) x
  hn : ∀ i x, v.mem[i]? = some x → W0.cell? ((B.getD default).add (i * 6)) = some (.string (mk x.name))
  hm : ∀ i x, v.mem[i]? = some x → Reads W0 ((B.getD default).add (i * 6 + 1)) x.val
abbrev Nd := Addr × V
/-- A value that is done: what is in it stands in N. -/
def Done (n0 : Nat) (W : World) (N : List Nd) (n : Nd) : Prop := ∃ A ca B cb, Five W n.1 n.2 A ca B cb ∧
  (0 < n.2.list.length → ∃ g, A = some ⟨g, 0, none⟩ ∧ ∀ i x, n.2.list[i]? = some x → ((⟨g, i * 5, none⟩ : Addr), x) ∈ N) ∧
  (0 < n.2.mem.length → ∃ h, B = some ⟨h, 0, none⟩ ∧ n0 ≤ h ∧ (∃ cs, Blk W h MT cs) ∧ ∀ i x, n.2.mem[i]? = some x → W.cell? ⟨h, i * 6, none⟩ = some (.string (mk x.name)) ∧ ((⟨h, i * 6 + 1, none⟩ : Addr), x.val) ∈ N)
/-- A value that waits. -/
def Wait (W0 W : World) (n : Nd) : Prop := ∃ A ca B cb, Five W n.1 n.2 A ca B cb ∧ Src W0 n.2 A B
/-- All but the value at x. -/
structure Rest (W0 : World) (n0 : Nat) (x : Addr) (N fin ws : List Nd) (W : World) : Prop where
  places : ∀ n ∈ N, Place n0 W n.1
  px : Place n0 W x
  fins : ∀ n ∈ fin, Done n0 W N n ∧ n ∈ N ∧ n.1 ≠ x
  waits : ∀ n ∈ ws, Wait W0 W n ∧ n ∈ N ∧ n.1 ≠ x
  below : Below W0.heap.size W0 W
  le : W0.heap.size ≤ n0
theorem Place.lt {n0 : Nat} {W : World} {a : Addr} (h : Place n0 W a) : a.block < W.heap.size := by
  obtain ⟨_, _, cs, ⟨h, _⟩ | ⟨h, _⟩⟩ := h
  · exact h.lt
  · exact h.lt
theorem Blk.set_keep {W : World} {g : Nat} {t : TypeId} {cs : Array Value} (h : Blk W g t cs) (p : Addr) (u : Value) : ∃ cs', Blk (W.setCell p u) g t cs' ∧ cs'.size = cs.size := by
  by_cases e : p.block = g
  · subst e
    by_cases hs : p.spot.isSome = true
    · refine ⟨cs, ?_, rfl⟩
      unfold Blk at *
      simp [World.setCell, Array.getElem?_modify, h, hs]
    · refine ⟨cs.setIfInBounds p.off u, ?_, by simp⟩
      unfold Blk at *
      simp [World.setCell, Array.getElem?_modify, h, hs]
  · refine ⟨cs, ?_, rfl⟩
    unfold Blk at *
    simp [World.setCell, Array.getElem?_modify, e, h]
theorem Place.set {n0 : Nat} {W : World} {a : Addr} (h : Place n0 W a) (p : Addr) (u : Value) : Place n0 (W.setCell p u) a := by
  obtain ⟨h1, h2, cs, ⟨h, h3⟩ | ⟨h, h3⟩⟩ := h
  · obtain ⟨cs', k1, k2⟩ := Blk.set_keep h p u
    exact ⟨h1, h2, cs', .inl ⟨k1, by rw [k2]; exact h3⟩⟩
  · obtain ⟨cs', k1, k2⟩ := Blk.set_keep h p u
    exact ⟨h1, h2, cs', .inr ⟨k1, by rw [k2]; exact h3⟩⟩
theorem Place.below {n0 : Nat} {W W' : World} {a : Addr} (h : Place n0 W a) (hb : Below W.heap.size W W') : Place n0 W' a := by
  obtain ⟨h1, h2, cs, ⟨h, h3⟩ | ⟨h, h3⟩⟩ := h
  · exact ⟨h1, h2, cs, .inl ⟨h.below hb h.lt, h3⟩⟩
  · exact ⟨h1, h2, cs, .inr ⟨h.below hb h.lt, h3⟩⟩
/-- Two places are one, or have no cell in common. -/
theorem Place.apart {n0 : Nat} {W : World} {a b : Addr} (ha : Place n0 W a) (hb : Place n0 W b) (hne : a ≠ b) {i j : Nat} (hi : i < 5) (hj : j < 5) : ¬ (a.block = b.block ∧ a.off + i = b.off + j) := by
  rintro ⟨e, o⟩
  obtain ⟨s1, _, c1, h1⟩ := ha
  obtain ⟨s2, _, c2, h2⟩ := hb
  have key : a.off = b.off := by
    rcases h1 with ⟨k1, m1, _⟩ | ⟨k1, m1, _⟩ <;> rcases h2 with ⟨k2, m2, _⟩ | ⟨k2, m2, _⟩
    · omega
    · exfalso
      rw [e] at k1
      unfold Blk at k1 k2
      rw [k1] at k2
      injection k2 with k2
      injection k2 with _ k2 _
      exact absurd k2 (by decide)
    · exfalso
      rw [e] at k1
      unfold Blk at k1 k2
      rw [k1] at k2
      injection k2 with k2
      injection k2 with _ k2 _
      exact absurd k2 (by decide)
    · omega
  apply hne
  obtain ⟨g, o1, sp⟩ := a
  obtain ⟨g', o2, sp'⟩ := b
  simp only at *
  subst e key s1 s2
  rfl
theorem cell_set_ne {W : World} {p q : Addr} {u v : Value} (h : W.cell? q = some v) (hne : ¬ (p.block = q.block ∧ p.off = q.off)) : (W.setCell p u).cell? q = some v := by
  rw [← h]
  by_cases e : p.block = q.block
  · have ho : p.off ≠ q.off := fun k => hne ⟨e, k⟩
    unfold World.cell? World.setCell
    simp only [Array.getElem?_modify, e, if_true]
    cases hq : W.heap[q.block]? with
    | none => rfl
    | some o =>
      cases o with
      | cells c t fr => by_cases hs : p.spot.isSome = true <;> simp [hs, ho]
      | _ => simp
  · unfold World.cell? World.setCell
    simp [Array.getElem?_modify, e]
theorem Five.set {n0 : Nat} {W : World} {a x : Addr} {v : V} {A : Option Addr} {ca : Nat} {B : Option Addr} {cb : Nat} (h : Five W a v A ca B cb) (ha : Place n0 W a) (hx : Place n0 W x) (hne : a ≠ x) {i : Nat} (hi : i < 5) (u : Value) : Five (W.setCell ⟨x.block, x.off + i, none⟩ u) a v A ca B cb := by
  have k : ∀ j, j < 5 → ¬ (x.block = a.block ∧ x.off + i = a.off + j) := fun j hj => hx.apart ha (fun e => hne e.symm) hi hj
  exact ⟨cell_set_ne h.c0 (k 0 (by omega)), cell_set_ne h.c1 (k 1 (by omega)), cell_set_ne h.c2 (k 2 (by omega)), cell_set_ne h.c3 (k 3 (by omega)), cell_set_ne h.c4 (k 4 (by omega))⟩
theorem Five.below {W W' : World} {a : Addr} {v : V} {A : Option Addr} {ca : Nat} {B : Option Addr} {cb N : Nat} (h : Five W a v A ca B cb) (hb : Below N W W') (hN : a.block < N) : Five W' a v A ca B cb :=
  ⟨(hb.cell (p := ⟨a.block, a.off, none⟩) hN).trans h.c0, (hb.cell (p := ⟨a.block, a.off + 1, none⟩) hN).trans h.c1, (hb.cell (p := ⟨a.block, a.off + 2, none⟩) hN).trans h.c2, (hb.cell (p := ⟨a.block, a.off + 3, none⟩) hN).trans h.c3, (hb.cell (p := ⟨a.block, a.off + 4, none⟩) hN).trans h.c4⟩
/-- A name's cell is no cell of a place. -/
theorem Place.no_name {n0 : Nat} {W : World} {x : Addr} (hx : Place n0 W x) {h : Nat} {cs : Array Value} (hb : Blk W h MT cs) {i j : Nat} (hi : i < 5) : ¬ (x.block = h ∧ x.off + i = j * 6) := by
  rintro ⟨e, o⟩
  obtain ⟨_, _, c1, ⟨k1, m1, _⟩ | ⟨k1, m1, _⟩⟩ := hx
  · rw [e] at k1
    unfold Blk at k1 hb
    rw [k1] at hb
    injection hb with hb
    injection hb with _ hb _
    exact absurd hb (by decide)
  · omega
/-- One cell of the value at x is written. -/
theorem Rest.set {W0 : World} {n0 : Nat} {x : Addr} {N fin ws : List Nd} {W : World} (h : Rest W0 n0 x N fin ws W) {i : Nat} (hi : i < 5) (u : Value) : Rest W0 n0 x N fin ws (W.setCell ⟨x.block, x.off + i, none⟩ u) := by
  refine ⟨fun n hn => (h.places n hn).set _ _, h.px.set _ _, fun n hn => ?_, fun n hn => ?_, h.below.trans ((Below.refl _ _).setCell (by have := h.px.2.1; have := h.le; show _ ≤ x.block; omega) _), h.le⟩
  · obtain ⟨⟨A, ca, B, cb, f, d1, d2⟩, hN, hne⟩ := h.fins n hn
    refine ⟨⟨A, ca, B, cb, f.set (h.places n hN) h.px hne hi u, d1, fun h0 => ?_⟩, hN, hne⟩
    obtain ⟨g, e, hg, ⟨cs, hb⟩, hc⟩ := d2 h0
    refine ⟨g, e, hg, (Blk.set_keep hb _ _).imp fun _ k => k.1, fun j y hy => ⟨cell_set_ne (hc j y hy).1 (h.px.no_name hb hi), (hc j y hy).2⟩⟩
  · obtain ⟨⟨A, ca, B, cb, f, s⟩, hN, hne⟩ := h.waits n hn
    exact ⟨⟨A, ca, B, cb, f.set (h.places n hN) h.px hne hi u, s⟩, hN, hne⟩
/-- What grows behind all that lies there. -/
theorem Rest.grow {W0 : World} {n0 : Nat} {x : Addr} {N fin ws : List Nd} {W W' : World} (h : Rest W0 n0 x N fin ws W) (hb : Below W.heap.size W W') : Rest W0 n0 x N fin ws W' := by
  refine ⟨fun n hn => (h.places n hn).below hb, h.px.below hb, fun n hn => ?_, fun n hn => ?_, h.below.trans (hb.mono h.below.size), h.le⟩
  · obtain ⟨⟨A, ca, B, cb, f, d1, d2⟩, hN, hne⟩ := h.fins n hn
    refine ⟨⟨A, ca, B, cb, f.below hb (h.places n hN).lt, d1, fun h0 => ?_⟩, hN, hne⟩
    obtain ⟨g, e, hg, ⟨cs, hk⟩, hc⟩ := d2 h0
    exact ⟨g, e, hg, ⟨cs, hk.below hb hk.lt⟩, fun j y hy => ⟨(hb.cell (lt_cell (hc j y hy).1)).trans (hc j y hy).1, (hc j y hy).2⟩⟩
  · obtain ⟨⟨A, ca, B, cb, f, s⟩, hN, hne⟩ := h.waits n hn
    exact ⟨⟨A, ca, B, cb, f.below hb (h.places n hN).lt, s⟩, hN, hne⟩
/-- A cell of a block that is nobody's is written. -/
theorem Rest.other {W0 : World} {n0 : Nat} {x : Addr} {N fin ws : List Nd} {W : World} (h : Rest W0 n0 x N fin ws W) {g o : Nat} (u : Value) (hg : n0 ≤ g) (hN : ∀ n ∈ N, n.1.block ≠ g) : Rest W0 n0 x N fin ws (W.setCell ⟨g, o, none⟩ u) := by
  have hfv : ∀ n : Nd, n ∈ N → ∀ {A ca B cb}, Five W n.1 n.2 A ca B cb → Five (W.setCell ⟨g, o, none⟩ u) n.1 n.2 A ca B cb := fun n hn A ca B cb f =>
    ⟨cell_set_ne f.c0 (fun e => hN n hn e.1.symm), cell_set_ne f.c1 (fun e => hN n hn e.1.symm), cell_set_ne f.c2 (fun e => hN n hn e.1.symm), cell_set_ne f.c3 (fun e => hN n hn e.1.symm), cell_set_ne f.c4 (fun e => hN n hn e.1.symm)⟩
  refine ⟨fun n hn => (h.places n hn).set _ _, h.px.set _ _, fun n hn => ?_, fun n hn => ?_, h.below.trans ((Below.refl _ _).setCell (by have := h.le; show _ ≤ g; omega) _), h.le⟩
  · obtain ⟨⟨A, ca, B, cb, f, d1, d2⟩, hN', hne⟩ := h.fins n hn
    refine ⟨⟨A, ca, B, cb, hfv n hN' f, d1, fun h0 => ?_⟩, hN', hne⟩
    obtain ⟨k, e, hk, ⟨cs, hb⟩, hc⟩ := d2 h0
    exact ⟨k, e, hk, (Blk.set_keep hb _ _).imp fun _ q => q.1, fun j y hy => ⟨cell_set_ne (hc j y hy).1 (fun e => hN _ (hc j y hy).2 e.1.symm), (hc j y hy).2⟩⟩
  · obtain ⟨⟨A, ca, B, cb, f, s⟩, hN', hne⟩ := h.waits n hn
    exact ⟨⟨A, ca, B, cb, hfv n hN' f, s⟩, hN', hne⟩
/-- When all is done it reads as what was copied. -/
theorem all_done {n0 : Nat} {W : World} {N : List Nd} {Pd : Nat → Prop} (hd : ∀ n ∈ N, Done n0 W N n) (hp : ∀ n ∈ N, Place n0 W n.1) (hP : ∀ n ∈ N, Pd n.1.block) : ∀ (k : Nat) (n : Nd), n.2.size ≤ k → n ∈ N → RdP Pd W n.1 n.2
  | 0, n, h, _ => absurd h (by have := n.2.size_pos; omega)
  | k + 1, n, h, hn => by
    obtain ⟨A, ca, B, cb, f, d1, d2⟩ := hd n hn
    have hP' := hp n hn
    have hb := hP n hn
    obtain ⟨⟨g, o, sp⟩, v⟩ := n
    have hs : sp = none := hP'.1
    subst hs
    cases v with
    | mk kd y t l m =>
      have hadd : ∀ (g i : Nat), (⟨g, 0, none⟩ : Addr).add i = ⟨g, i, none⟩ := fun g i => by rw [Addr.add_mid, Nat.zero_add]
      refine .mk _ kd y t l m A ca B cb hb f.c0 (by rw [Addr.add_mid]; exact f.c1) (by rw [Addr.add_mid]; exact f.c2) (by rw [Addr.add_mid]; exact f.c3) (by rw [Addr.add_mid]; exact f.c4) (fun h0 => ?_) (fun h0 => ?_) (fun i x hx => ?_) (fun i x hx => ?_) (fun i x hx => ?_)
      · obtain ⟨g', rfl, _⟩ := d1 h0; rfl
      · obtain ⟨g', rfl, _⟩ := d2 h0; rfl
      · obtain ⟨g', rfl, hc⟩ := d1 (List.length_pos_of_mem (List.mem_of_getElem? hx))
        have hlt : x.size < (V.mk kd y t l m).size := V.lt_list (v := .mk kd y t l m) (List.mem_of_getElem? hx)
        have := all_done hd hp hP k (⟨g', i * 5, none⟩, x) (by simp only at h ⊢; omega) (hc i x hx)
        rw [show ((some (⟨g', 0, none⟩ : Addr)).getD default).add (i * 5) = ⟨g', i * 5, none⟩ from hadd _ _]
        exact this
      · obtain ⟨g', rfl, _, _, hc⟩ := d2 (List.length_pos_of_mem (List.mem_of_getElem? hx))
        rw [show ((some (⟨g', 0, none⟩ : Addr)).getD default).add (i * 6) = ⟨g', i * 6, none⟩ from hadd _ _]
        exact (hc i x hx).1
      · obtain ⟨g', rfl, _, _, hc⟩ := d2 (List.length_pos_of_mem (List.mem_of_getElem? hx))
        have hlt : x.val.size < (V.mk kd y t l m).size := V.lt_mem (v := .mk kd y t l m) (List.mem_of_getElem? hx)
        have := all_done hd hp hP k (⟨g', i * 6 + 1, none⟩, x.val) (by simp only at h ⊢; omega) (hc i x hx).2
        rw [show ((some (⟨g', 0, none⟩ : Addr)).getD default).add (i * 6 + 1) = ⟨g', i * 6 + 1, none⟩ from hadd _ _]
        exact this
end Go.Proofs.YtkenananejgcpaaGreatDoor.Jsn
namespace Go.Proofs.YtkenananejgcpaaGreatDoor.Jsn
open Go.RowKit Txt
/-- A store of what is there changes nothing. -/
theorem setCell_same {W : World} {p : Addr} {u : Value} (h : W.cell? p = some u) : W.setCell p u = W := by
  have key : ∀ i : Nat, (W.setCell p u).heap[i]? = W.heap[i]? := by
    intro i
    unfold World.setCell
    simp only [Array.getElem?_modify]
    by_cases hi : p.block = i
    · subst hi
      rw [if_pos rfl]
      unfold World.cell? at h
      cases hq : W.heap[p.block]? with
      | none => rfl
      | some o =>
        rw [hq] at h
        cases o with
        | cells cs t fr =>
          simp only at h
          by_cases hs : p.spot.isSome = true
          · simp [hs]
          · simp only [hs] at h
            have hj : p.off < cs.size := (Array.getElem?_eq_some_iff.1 (by simpa using h)).1
            simp only [Option.map_some, hs]
            simp only [Option.some.injEq, Obj.cells.injEq, and_true]
            simp only [Bool.false_eq_true, if_false]
            apply Array.ext_getElem?
            intro j
            rw [Array.getElem?_setIfInBounds]
            by_cases hj' : p.off = j
            · subst hj'
              rw [if_pos rfl, if_pos hj]
              simpa using h.symm
            · rw [if_neg hj']
        | _ => simp
    · rw [if_neg hi]
  have hh : (W.setCell p u).heap = W.heap := Array.ext_getElem? key
  unfold World.setCell at hh ⊢
  simp only at hh
  rw [hh]
theorem Reads.src {w : World} {a : Addr} {v : V} (h : Reads w a v) : ∃ A ca B cb, w.cell? a = some (.int .i64 v.kind) ∧ w.cell? (a.add 1) = some (.bool v.yes) ∧ w.cell? (a.add 2) = some (.string (Txt.mk v.text)) ∧ w.cell? (a.add 3) = some (.slice A (v.list.length : Nat) ca) ∧ w.cell? (a.add 4) = some (.slice B (v.mem.length : Nat) cb) ∧ Src w v A B := by
  cases h with
  | mk a k y t l m A ca B cb c0 c1 c2 c3 c4 hA hB hl hn hm => exact ⟨A, ca, B, cb, c0, c1, c2, c3, c4, hA, hB, hl, hn, hm⟩
/-- What a row says of the value whose cells begin at k. -/
def At5 (W0 : World) (news : List Value) (k : Nat) (x : V) : Prop := ∃ A ca B cb, news[k]? = some (.int .i64 x.kind) ∧ news[k + 1]? = some (.bool x.yes) ∧ news[k + 2]? = some (.string (mk x.text)) ∧ news[k + 3]? = some (.slice A (x.list.length : Nat) ca) ∧ news[k + 4]? = some (.slice B (x.mem.length : Nat) cb) ∧ Src W0 x A B
theorem At5.shift {W0 : World} {news pre : List Value} {k n : Nat} {x : V} (h : At5 W0 news k x) (hp : pre.length = n) : At5 W0 (pre ++ news) (n + k) x := by
  obtain ⟨A, ca, B, cb, h0, h1, h2, h3, h4, hs⟩ := h
  have e : ∀ j, (pre ++ news)[n + k + j]? = news[k + j]? := fun j => by rw [List.getElem?_append_right (by omega), hp]; congr 1; omega
  exact ⟨A, ca, B, cb, by have := e 0; simp only [Nat.add_zero] at this; rw [this]; exact h0, by rw [e]; exact h1, by rw [e]; exact h2, by rw [e]; exact h3, by rw [e]; exact h4, hs⟩
theorem list_cells (W0 : World) (base : Addr) : ∀ (l : List V) (o : Nat), (∀ i x, l[i]? = some x → Reads W0 (base.add ((o + i) * 5)) x) →
    ∃ news : List Value, news.length = l.length * 5 ∧ (∀ j u, news[j]? = some u → W0.cell? (base.add (o * 5 + j)) = some u) ∧ (∀ u ∈ news, u.oneCell' = true) ∧ ∀ i x, l[i]? = some x → At5 W0 news (i * 5) x
  | [], o, _ => ⟨[], rfl, (fun j u h => by simp at h), (fun u h => by cases h), (fun i x h => by simp at h)⟩
  | y :: l, o, h => by
    obtain ⟨news, n1, n2, n3, n4⟩ := list_cells W0 base l (o + 1) (fun i x hx => by
      have := h (i + 1) x (by simpa using hx)
      rw [show o + 1 + i = o + (i + 1) by omega]; exact this)
    obtain ⟨A, ca, B, cb, c0, c1, c2, c3, c4, hs⟩ := (h 0 y rfl).src
    rw [Nat.add_zero] at c0 c1 c2 c3 c4
    rw [add_add] at c1 c2 c3 c4
    refine ⟨[.int .i64 y.kind, .bool y.yes, .string (mk y.text), .slice A (y.list.length : Nat) ca, .slice B (y.mem.length : Nat) cb] ++ news, by simp [n1]; omega, fun j u hu => ?_, fun u hu => ?_, fun i x hx => ?_⟩
    · by_cases hj : j < 5
      · rw [List.getElem?_append_left (by simpa using hj)] at hu
        rcases (by omega : j = 0 ∨ j = 1 ∨ j = 2 ∨ j = 3 ∨ j = 4) with rfl | rfl | rfl | rfl | rfl
        all_goals (simp only [List.getElem?_cons_zero, List.getElem?_cons_succ, Option.some.injEq] at hu; subst hu)
        · exact c0
        · exact c1
        · exact c2
        · exact c3
        · exact c4
      · rw [List.getElem?_append_right (by simp; omega)] at hu
        have := n2 _ u hu
        rw [show o * 5 + j = (o + 1) * 5 + (j - [Value.int .i64 y.kind, .bool y.yes, .string (mk y.text), .slice A (y.list.length : Nat) ca, .slice B (y.mem.length : Nat) cb].length) by simp; omega]
        exact this
    · rcases List.mem_append.1 hu with hu | hu
      · simp at hu; rcases hu with rfl | rfl | rfl | rfl | rfl <;> rfl
      · exact n3 u hu
    · cases i with
      | zero =>
        simp at hx
        subst hx
        exact ⟨A, ca, B, cb, rfl, rfl, rfl, rfl, rfl, hs⟩
      | succ i =>
        have := (n4 i x (by simpa using hx)).shift (pre := [.int .i64 y.kind, .bool y.yes, .string (mk y.text), .slice A (y.list.length : Nat) ca, .slice B (y.mem.length : Nat) cb]) (n := 5) rfl
        rw [show (i + 1) * 5 = 5 + i * 5 by omega]
        exact this
theorem mem_cells (W0 : World) (base : Addr) : ∀ (l : List M) (o : Nat), (∀ i x, l[i]? = some x → W0.cell? (base.add ((o + i) * 6)) = some (.string (mk x.name)) ∧ Reads W0 (base.add ((o + i) * 6 + 1)) x.val) →
    ∃ news : List Value, news.length = l.length * 6 ∧ (∀ j u, news[j]? = some u → W0.cell? (base.add (o * 6 + j)) = some u) ∧ (∀ u ∈ news, u.oneCell' = true) ∧ ∀ i x, l[i]? = some x → news[i * 6]? = some (.string (mk x.name)) ∧ At5 W0 news (i * 6 + 1) x.val
  | [], o, _ => ⟨[], rfl, (fun j u h => by simp at h), (fun u h => by cases h), (fun i x h => by simp at h)⟩
  | y :: l, o, h => by
    obtain ⟨news, n1, n2, n3, n4⟩ := mem_cells W0 base l (o + 1) (fun i x hx => by
      have := h (i + 1) x (by simpa using hx)
      rw [show o + 1 + i = o + (i + 1) by omega]; exact this)
    obtain ⟨hn, hr⟩ := h 0 y rfl
    obtain ⟨A, ca, B, cb, c0, c1, c2, c3, c4, hs⟩ := hr.src
    rw [Nat.add_zero] at hn c0 c1 c2 c3 c4
    rw [add_add] at c1 c2 c3 c4
    obtain ⟨pre, hpre⟩ : ∃ pre : List Value, pre = [.string (mk y.name), .int .i64 y.val.kind, .bool y.val.yes, .string (mk y.val.text), .slice A (y.val.list.length : Nat) ca, .slice B (y.val.mem.length : Nat) cb] := ⟨_, rfl⟩
    have hpl : pre.length = 6 := by rw [hpre]; rfl
    refine ⟨pre ++ news, by rw [List.length_append, hpl, n1, List.length_cons]; omega, fun j u hu => ?_, fun u hu => ?_, fun i x hx => ?_⟩
    · by_cases hj : j < 6
      · rw [List.getElem?_append_left (by omega), hpre] at hu
        rcases (by omega : j = 0 ∨ j = 1 ∨ j = 2 ∨ j = 3 ∨ j = 4 ∨ j = 5) with rfl | rfl | rfl | rfl | rfl | rfl
        all_goals (simp only [List.getElem?_cons_zero, List.getElem?_cons_succ, Option.some.injEq] at hu; subst hu)
        · exact hn
        · exact c0
        · rw [show o * 6 + 2 = o * 6 + 1 + 1 by omega]; exact c1
        · rw [show o * 6 + 3 = o * 6 + 1 + 2 by omega]; exact c2
        · rw [show o * 6 + 4 = o * 6 + 1 + 3 by omega]; exact c3
        · rw [show o * 6 + 5 = o * 6 + 1 + 4 by omega]; exact c4
      · rw [List.getElem?_append_right (by omega)] at hu
        have := n2 _ u hu
        rw [show o * 6 + j = (o + 1) * 6 + (j - pre.length) by omega]
        exact this
    · rcases List.mem_append.1 hu with hu | hu
      · rw [hpre] at hu; simp at hu; rcases hu with rfl | rfl | rfl | rfl | rfl | rfl <;> rfl
      · exact n3 u hu
    · cases i with
      | zero =>
        simp at hx
        subst hx
        rw [hpre]
        exact ⟨rfl, A, ca, B, cb, rfl, rfl, rfl, rfl, rfl, hs⟩
      | succ i =>
        obtain ⟨k1, k2⟩ := n4 i x (by simpa using hx)
        have := k2.shift hpl
        rw [show (i + 1) * 6 = 6 + i * 6 by omega]
        exact ⟨by rw [List.getElem?_append_right (by omega), hpl, Nat.add_sub_cancel_left]; exact k1, this⟩
/-- Values that wait, out of a row that was laid. -/
theorem At5.wait {W0 W : World} {news : List Value} {k : Nat} {x : V} (h : At5 W0 news k x) {g : Nat} (hc : ∀ j u, news[j]? = some u → W.cell? ⟨g, j, none⟩ = some u) : Wait W0 W (⟨g, k, none⟩, x) := by
  obtain ⟨A, ca, B, cb, h0, h1, h2, h3, h4, hs⟩ := h
  exact ⟨A, ca, B, cb, ⟨hc _ _ h0, hc _ _ h1, hc _ _ h2, hc _ _ h3, hc _ _ h4⟩, hs⟩
/-- What is on the list, as values with their places. -/
def wt (ss : List (It × V)) : List Nd := ss.map fun s => (s.1.1, s.2)
theorem wt_append (a b : List (It × V)) : wt (a ++ b) = wt a ++ wt b := by simp [wt]
/-- What holds between two rounds. -/
structure CJ (W0 : World) (T : V) (n0 : Nat) (root : Addr) (m : Nat) (st : List It) (O : Blocks) (W : World) : Prop where
  ex : ∃ (ss : List (It × V)) (fin : List Nd), st = ss.map Prod.fst ∧ m = (ss.map fun s => s.2.size).sum ∧ m ≤ T.size ∧ (∀ s ∈ ss, s.1.2 + s.2.size ≤ 1 + T.size ∧ s.2.loose) ∧
    (∀ n ∈ fin, Done n0 W (fin ++ wt ss) n) ∧ (∀ n ∈ wt ss, Wait W0 W n) ∧ (∀ n ∈ fin ++ wt ss, Place n0 W n.1) ∧ ((fin ++ wt ss).map Prod.fst).Nodup ∧ (root, T) ∈ fin ++ wt ss ∧ (∀ k, O k → ∀ n ∈ fin ++ wt ss, n.1.block ≠ k)
  own : ∀ k, O k → n0 ≤ k
  olt : ∀ k, O k → k < W.heap.size
  below : Below W0.heap.size W0 W
  le : W0.heap.size ≤ n0
theorem Place.same {n0 : Nat} {W W' : World} {a : Addr} (h : Place n0 W a) (hk : W'.heap[a.block]? = W.heap[a.block]?) : Place n0 W' a := by
  obtain ⟨h1, h2, cs, ⟨h, h3⟩ | ⟨h, h3⟩⟩ := h
  · exact ⟨h1, h2, cs, .inl ⟨hk.trans h, h3⟩⟩
  · exact ⟨h1, h2, cs, .inr ⟨hk.trans h, h3⟩⟩
theorem Five.same {W W' : World} {a : Addr} {v : V} {A : Option Addr} {ca : Nat} {B : Option Addr} {cb : Nat} (h : Five W a v A ca B cb) (hk : W'.heap[a.block]? = W.heap[a.block]?) : Five W' a v A ca B cb :=
  have k : ∀ {o : Nat} {u : Value}, W.cell? ⟨a.block, o, none⟩ = some u → W'.cell? ⟨a.block, o, none⟩ = some u := fun {o _} hu => (World.cell?_of_block (a := ⟨a.block, o, none⟩) hk).trans hu
  ⟨k h.c0, k h.c1, k h.c2, k h.c3, k h.c4⟩
theorem Done.same {n0 : Nat} {W W' : World} {N : List Nd} {n : Nd} (h : Done n0 W N n) (hn : n ∈ N) (hk : ∀ n ∈ N, W'.heap[n.1.block]? = W.heap[n.1.block]?) : Done n0 W' N n := by
  obtain ⟨A, ca, B, cb, f, d1, d2⟩ := h
  refine ⟨A, ca, B, cb, f.same (hk n hn), d1, fun h0 => ?_⟩
  obtain ⟨g, e, hg, ⟨cs, hb⟩, hc⟩ := d2 h0
  obtain ⟨y, hy⟩ : ∃ y, n.2.mem[0]? = some y := ⟨_, List.getElem?_eq_getElem h0⟩
  have hb' := hk _ (hc 0 y hy).2
  exact ⟨g, e, hg, ⟨cs, hb'.trans hb⟩, fun j y hy => ⟨(World.cell?_of_block (a := ⟨g, j * 6, none⟩) hb').trans (hc j y hy).1, (hc j y hy).2⟩⟩
theorem CJ.abide {W0 : World} {T : V} {n0 : Nat} {root : Addr} {m : Nat} {st : List It} : Abide (CJ W0 T n0 root m st) := by
  intro O W W' row h hg hr
  obtain ⟨ss, fin, a1, a2, a3, a4, a5, a6, a7, a8, a9, a10⟩ := h.ex
  have hk : ∀ n ∈ fin ++ wt ss, W'.heap[n.1.block]? = W.heap[n.1.block]? := fun n hn => hg.block _ (a7 n hn).lt (fun e => a10 _ (hr _ e.symm) n hn rfl)
  have hb : Below W0.heap.size W0 W' := h.below.trans ⟨hg.os, hg.tape, hg.output, hg.size, fun k hk => hg.block k (by have := h.below.size; omega) (fun e => by have := h.own k (hr k e.symm); have := h.le; omega)⟩
  have hz : n0 ≤ W.heap.size := by have := (a7 _ a9).lt; have := (a7 _ a9).2.1; omega
  refine ⟨⟨ss, fin, a1, a2, a3, a4, fun n hn => (a5 n hn).same (List.mem_append.2 (.inl hn)) hk, fun n hn => ?_, fun n hn => (a7 n hn).same (hk n hn), a8, a9, ?_⟩, ?_, ?_, hb, h.le⟩
  · obtain ⟨A, ca, B, cb, f, s⟩ := a6 n hn
    exact ⟨A, ca, B, cb, f.same (hk n (List.mem_append.2 (.inr hn))), s⟩
  · rintro k (hO | hO) n hn
    · exact a10 k hO n hn
    · have := (a7 n hn).lt; omega
  · rintro k (hO | hO)
    · exact h.own k hO
    · omega
  · rintro k (hO | hO)
    · have := h.olt k hO; have := hg.size; omega
    · omega
theorem CJ.start {W0 W : World} {T : V} {g : Nat} {O : Blocks} {A : Option Addr} {ca : Nat} {B : Option Addr} {cb : Nat} (hb : Below W0.heap.size W0 W) (hg : W0.heap.size ≤ g) (hk : Blk W g VT #[.int .i64 T.kind, .bool T.yes, .string (Txt.mk T.text), .slice A (T.list.length : Nat) ca, .slice B (T.mem.length : Nat) cb])
    (hs : Src W0 T A B) (ht : T.loose) (hO : ∀ k, O k → g < k ∧ k < W.heap.size) : CJ W0 T g ⟨g, 0, none⟩ T.size [(⟨g, 0, none⟩, 1)] O W := by
  refine ⟨⟨[((⟨g, 0, none⟩, 1), T)], [], rfl, by simp, Nat.le_refl _, fun s h => by rw [List.mem_singleton.1 h]; exact ⟨Nat.le_refl _, ht⟩, (fun n h => by cases h), fun n h => ?_, fun n h => ?_, by simp [wt], by simp [wt], fun k hk n h => ?_⟩, fun k hk => Nat.le_of_lt (hO k hk).1, fun k hk => (hO k hk).2, hb, hg⟩
  · simp [wt] at h
    subst h
    exact ⟨A, ca, B, cb, ⟨hk.cell 0, hk.cell 1, hk.cell 2, hk.cell 3, hk.cell 4⟩, hs⟩
  · simp [wt] at h
    subst h
    exact ⟨rfl, Nat.le_refl _, _, .inl ⟨hk, rfl, Nat.le_refl _⟩⟩
  · simp [wt] at h
    subst h
    have := (hO k hk).1
    show g ≠ k
    omega
end Go.Proofs.YtkenananejgcpaaGreatDoor.Jsn
namespace Go.Proofs.YtkenananejgcpaaGreatDoor.Jsn
open Go.RowKit Txt
theorem CJ.take {W0 W : World} {T : V} {n0 : Nat} {root : Addr} {m : Nat} {st : List It} {x : It} {O : Blocks} (h : CJ W0 T n0 root m (st ++ [x]) O W) :
    ∃ (ss : List (It × V)) (t : V) (fin : List Nd), st = ss.map Prod.fst ∧ m = (ss.map fun s => s.2.size).sum + t.size ∧ m ≤ T.size ∧ x.2 + t.size ≤ 1 + T.size ∧ t.loose ∧ (∀ s ∈ ss, s.1.2 + s.2.size ≤ 1 + T.size ∧ s.2.loose) ∧
      Wait W0 W (x.1, t) ∧ Rest W0 n0 x.1 (fin ++ wt ss ++ [(x.1, t)]) fin (wt ss) W ∧ ((fin ++ wt ss ++ [(x.1, t)]).map Prod.fst).Nodup ∧ (root, T) ∈ fin ++ wt ss ++ [(x.1, t)] ∧ (∀ k, O k → ∀ n ∈ fin ++ wt ss ++ [(x.1, t)], n.1.block ≠ k) := by
  obtain ⟨ss, fin, a1, a2, a3, a4, a5, a6, a7, a8, a9, a10⟩ := h.ex
  rcases List.eq_nil_or_concat ss with rfl | ⟨ss', s, rfl⟩
  · simp at a1
  · rw [List.concat_eq_append] at *
    rw [List.map_append] at a1
    obtain ⟨e1, e2⟩ := List.append_inj' a1 rfl
    simp only [List.map_cons, List.map_nil, List.cons.injEq, and_true] at e2
    obtain ⟨x', t⟩ := s
    simp only at e2
    subst e2
    have eN : fin ++ wt (ss' ++ [(x, t)]) = fin ++ wt ss' ++ [(x.1, t)] := by rw [wt_append, ← List.append_assoc]; rfl
    rw [eN] at a5 a7 a8 a9 a10
    obtain ⟨d1, d2⟩ := a4 (x, t) (by simp)
    have hnd := a8
    rw [List.map_append, List.nodup_append] at hnd
    have hne : ∀ n ∈ fin ++ wt ss', n.1 ≠ x.1 := fun n hn e => hnd.2.2 n.1 (List.mem_map.2 ⟨n, hn, rfl⟩) x.1 (by simp) e
    refine ⟨ss', t, fin, e1, by rw [a2]; simp, a3, d1, d2, fun s hs => a4 s (by simp [hs]), a6 _ (by rw [wt_append]; simp [wt]), ⟨a7, a7 (x.1, t) (by simp), fun n hn => ⟨a5 n hn, by simp [hn], hne n (by simp [hn])⟩, fun n hn => ⟨a6 n (by rw [wt_append]; simp [hn]), by simp [hn], hne n (by simp [hn])⟩, h.below, h.le⟩, a8, a9, a10⟩
theorem Done.more {n0 : Nat} {W : World} {N N' : List Nd} {n : Nd} (h : Done n0 W N n) (hs : ∀ y, y ∈ N → y ∈ N') : Done n0 W N' n := by
  obtain ⟨A, ca, B, cb, f, d1, d2⟩ := h
  refine ⟨A, ca, B, cb, f, fun h0 => ?_, fun h0 => ?_⟩
  · obtain ⟨g, e, hc⟩ := d1 h0
    exact ⟨g, e, fun i x hx => hs _ (hc i x hx)⟩
  · obtain ⟨g, e, hg, hb, hc⟩ := d2 h0
    exact ⟨g, e, hg, hb, fun i x hx => ⟨(hc i x hx).1, hs _ (hc i x hx).2⟩⟩
/-- A row of values that was laid. -/
structure RowL (W0 W : World) (lo : Nat) (A : Option Addr) (l : List V) : Prop where
  ex : 0 < l.length → ∃ g cs, A = some ⟨g, 0, none⟩ ∧ lo ≤ g ∧ Blk W g VT cs ∧ l.length * 5 ≤ cs.size ∧ ∀ i x, l[i]? = some x → Wait W0 W (⟨g, i * 5, none⟩, x)
structure RowM (W0 W : World) (lo : Nat) (B : Option Addr) (l : List M) : Prop where
  ex : 0 < l.length → ∃ h cs, B = some ⟨h, 0, none⟩ ∧ lo ≤ h ∧ Blk W h MT cs ∧ l.length * 6 ≤ cs.size ∧ ∀ i x, l[i]? = some x → W.cell? ⟨h, i * 6, none⟩ = some (.string (mk x.name)) ∧ Wait W0 W (⟨h, i * 6 + 1, none⟩, x.val)
def kidL (A : Option Addr) (l : List V) : List Nd := l.zipIdx.map fun p => ((A.getD default).add (p.2 * 5), p.1)
def kidM (B : Option Addr) (l : List M) : List Nd := l.zipIdx.map fun p => ((B.getD default).add (p.2 * 6 + 1), p.1.val)
theorem wt_kids (A B : Option Addr) (d : Nat) (t : V) : wt (kidsV A B d true t) = kidL A t.list ++ kidM B t.mem := by
  unfold wt kidsV kidL kidM
  simp [List.map_append, Function.comp_def]
theorem add0 (g i : Nat) : (⟨g, 0, none⟩ : Addr).add i = ⟨g, i, none⟩ := by rw [Addr.add_mid, Nat.zero_add]
theorem mem_kidL {g : Nat} {l : List V} {n : Nd} : n ∈ kidL (some ⟨g, 0, none⟩) l ↔ ∃ i x, l[i]? = some x ∧ n = (⟨g, i * 5, none⟩, x) := by
  unfold kidL
  rw [List.mem_map]
  constructor
  · rintro ⟨⟨x, i⟩, hp, rfl⟩
    rw [List.mem_zipIdx_iff_getElem?] at hp
    exact ⟨i, x, hp, by simp only [Option.getD_some, add0]⟩
  · rintro ⟨i, x, hx, rfl⟩
    exact ⟨(x, i), by rw [List.mem_zipIdx_iff_getElem?]; exact hx, by simp only [Option.getD_some, add0]⟩
theorem mem_kidM {g : Nat} {l : List M} {n : Nd} : n ∈ kidM (some ⟨g, 0, none⟩) l ↔ ∃ i x, l[i]? = some x ∧ n = (⟨g, i * 6 + 1, none⟩, x.val) := by
  unfold kidM
  rw [List.mem_map]
  constructor
  · rintro ⟨⟨x, i⟩, hp, rfl⟩
    rw [List.mem_zipIdx_iff_getElem?] at hp
    exact ⟨i, x, hp, by simp only [Option.getD_some, add0]⟩
  · rintro ⟨i, x, hx, rfl⟩
    exact ⟨(x, i), by rw [List.mem_zipIdx_iff_getElem?]; exact hx, by simp only [Option.getD_some, add0]⟩
theorem nodup_map' {α β : Type} (f : α → β) (hf : ∀ i j, f i = f j → i = j) : ∀ l : List α, l.Nodup → (l.map f).Nodup
  | [], _ => List.nodup_nil
  | x :: l, h => by
    rw [List.nodup_cons] at h
    rw [List.map_cons, List.nodup_cons]
    refine ⟨fun hm => ?_, nodup_map' f hf l h.2⟩
    obtain ⟨y, hy, e⟩ := List.mem_map.1 hm
    exact h.1 (hf _ _ e ▸ hy)
theorem nodup_zip {α β : Type} (f : Nat → β) (hf : ∀ i j, f i = f j → i = j) (l : List α) : (l.zipIdx.map fun p => f p.2).Nodup := by
  have e : (l.zipIdx.map fun p => f p.2) = (List.range l.length).map f := by
    apply List.ext_getElem?
    intro i
    simp
    by_cases h : i < l.length
    · simp [h]
    · simp [h]
  rw [e]
  exact nodup_map' f hf _ List.nodup_range
theorem kidL_nodup (g : Nat) (l : List V) : ((kidL (some ⟨g, 0, none⟩) l).map Prod.fst).Nodup := by
  unfold kidL
  rw [List.map_map]
  refine nodup_zip (fun i => ((some (⟨g, 0, none⟩ : Addr)).getD default).add (i * 5)) (fun i j h => ?_) l
  simp only [Option.getD_some, add0, Addr.mk.injEq, and_true, true_and] at h
  omega
theorem kidM_nodup (g : Nat) (l : List M) : ((kidM (some ⟨g, 0, none⟩) l).map Prod.fst).Nodup := by
  unfold kidM
  rw [List.map_map]
  refine nodup_zip (fun i => ((some (⟨g, 0, none⟩ : Addr)).getD default).add (i * 6 + 1)) (fun i j h => ?_) l
  simp only [Option.getD_some, add0, Addr.mk.injEq, and_true, true_and] at h
  omega
/-- The value at x is given back, done; what is in it waits. -/
theorem CJ.give {W0 W W' : World} {T : V} {n0 : Nat} {root : Addr} {x : It} {O : Blocks} {ss : List (It × V)} {t : V} {fin : List Nd} {A' B' : Option Addr} {ca' cb' : Nat} {m : Nat}
    (hm : m = (ss.map fun s => s.2.size).sum + t.size) (hmT : m ≤ T.size) (hx : x.2 + t.size ≤ 1 + T.size) (ht : t.loose) (hss : ∀ s ∈ ss, s.1.2 + s.2.size ≤ 1 + T.size ∧ s.2.loose)
    (hnd : ((fin ++ wt ss ++ [(x.1, t)]).map Prod.fst).Nodup) (hroot : (root, T) ∈ fin ++ wt ss ++ [(x.1, t)]) (hO : ∀ k, O k → ∀ n ∈ fin ++ wt ss ++ [(x.1, t)], n.1.block ≠ k) (hOn : ∀ k, O k → n0 ≤ k) (hOl : ∀ k, O k → k < W.heap.size)
    (hlow : ∀ n ∈ fin ++ wt ss ++ [(x.1, t)], n.1.block < W.heap.size) (hlo : n0 ≤ W.heap.size) (hgrow : W.heap.size ≤ W'.heap.size)
    (hr : Rest W0 n0 x.1 (fin ++ wt ss ++ [(x.1, t)]) fin (wt ss) W') (hf : Five W' x.1 t A' ca' B' cb') (hA : RowL W0 W' W.heap.size A' t.list) (hB : RowM W0 W' W.heap.size B' t.mem)
    (hAB : ∀ g h, A' = some ⟨g, 0, none⟩ → B' = some ⟨h, 0, none⟩ → 0 < t.list.length → 0 < t.mem.length → g ≠ h) :
    ∃ m', m' < m ∧ CJ W0 T n0 root m' (ss.map Prod.fst ++ kidsL A' (fromList true t.kind t.list.length) (x.2 + 1) ++ kidsM B' (fromMem true t.kind t.mem.length) (x.2 + 1)) O W' := by
  have hKL : ∀ n ∈ kidL A' t.list, W.heap.size ≤ n.1.block ∧ Place n0 W' n.1 ∧ Wait W0 W' n := by
    intro n hn
    have h0 : 0 < t.list.length := by
      cases hl : t.list with
      | nil => rw [hl] at hn; cases hn
      | cons _ _ => simp
    obtain ⟨g, cs, e, hg, hb, hs, hc⟩ := hA.ex h0
    rw [e] at hn
    obtain ⟨i, y, hy, rfl⟩ := mem_kidL.1 hn
    have hi : i < t.list.length := (List.getElem?_eq_some_iff.1 hy).1
    exact ⟨hg, ⟨rfl, Nat.le_trans hlo hg, cs, .inl ⟨hb, by simp, by simp only; omega⟩⟩, hc i y hy⟩
  have hKM : ∀ n ∈ kidM B' t.mem, W.heap.size ≤ n.1.block ∧ Place n0 W' n.1 ∧ Wait W0 W' n := by
    intro n hn
    have h0 : 0 < t.mem.length := by
      cases hl : t.mem with
      | nil => rw [hl] at hn; cases hn
      | cons _ _ => simp
    obtain ⟨g, cs, e, hg, hb, hs, hc⟩ := hB.ex h0
    rw [e] at hn
    obtain ⟨i, y, hy, rfl⟩ := mem_kidM.1 hn
    have hi : i < t.mem.length := (List.getElem?_eq_some_iff.1 hy).1
    exact ⟨hg, ⟨rfl, Nat.le_trans hlo hg, cs, .inr ⟨hb, by simp only; omega, by simp only; omega⟩⟩, (hc i y hy).2⟩
  have hK : ∀ n ∈ kidL A' t.list ++ kidM B' t.mem, W.heap.size ≤ n.1.block ∧ Place n0 W' n.1 ∧ Wait W0 W' n := fun n hn => (List.mem_append.1 hn).elim (hKL n) (hKM n)
  have hKn : ((kidL A' t.list ++ kidM B' t.mem).map Prod.fst).Nodup := by
    rw [List.map_append, List.nodup_append]
    refine ⟨?_, ?_, ?_⟩
    · cases hl : t.list with
      | nil => exact List.nodup_nil
      | cons y l =>
        obtain ⟨g, cs, e, _⟩ := hA.ex (by rw [hl]; simp)
        rw [e]
        exact kidL_nodup g _
    · cases hl : t.mem with
      | nil => exact List.nodup_nil
      | cons y l =>
        obtain ⟨g, cs, e, _⟩ := hB.ex (by rw [hl]; simp)
        rw [e]
        exact kidM_nodup g _
    · intro a ha b hb hab
      obtain ⟨n, hn, rfl⟩ := List.mem_map.1 ha
      obtain ⟨n', hn', rfl⟩ := List.mem_map.1 hb
      have h0 : 0 < t.list.length := by
        cases hl : t.list with
        | nil => rw [hl] at hn; cases hn
        | cons _ _ => simp
      have h1 : 0 < t.mem.length := by
        cases hl : t.mem with
        | nil => rw [hl] at hn'; cases hn'
        | cons _ _ => simp
      obtain ⟨g, cs, e, _⟩ := hA.ex h0
      obtain ⟨g', cs', e', _⟩ := hB.ex h1
      have hgg := hAB g g' e e' h0 h1
      rw [e] at hn
      rw [e'] at hn'
      obtain ⟨i, y, hy, rfl⟩ := mem_kidL.1 hn
      obtain ⟨i', y', hy', rfl⟩ := mem_kidM.1 hn'
      simp only [Addr.mk.injEq] at hab
      exact hgg hab.1
  obtain ⟨K, hKe⟩ : ∃ K, K = kidL A' t.list ++ kidM B' t.mem := ⟨_, rfl⟩
  rw [← hKe] at hK hKn
  have hwt : wt (ss ++ kidsV A' B' (x.2 + 1) true t) = wt ss ++ K := by rw [wt_append, wt_kids, hKe]
  have hperm : ((fin ++ [(x.1, t)]) ++ (wt ss ++ K)).Perm ((fin ++ wt ss ++ [(x.1, t)]) ++ K) := by
    rw [List.append_assoc, List.append_assoc, List.append_assoc]
    refine List.Perm.append_left fin ?_
    exact List.perm_append_comm_assoc _ _ _
  have hsub : ∀ y, y ∈ fin ++ wt ss ++ [(x.1, t)] → y ∈ (fin ++ [(x.1, t)]) ++ (wt ss ++ K) := fun y hy => hperm.mem_iff.2 (List.mem_append.2 (.inl hy))
  have hall : ∀ y, y ∈ (fin ++ [(x.1, t)]) ++ (wt ss ++ K) → y ∈ fin ++ wt ss ++ [(x.1, t)] ∨ y ∈ K := fun y hy => List.mem_append.1 (hperm.mem_iff.1 hy)
  have hsz : ((kidsV A' B' (x.2 + 1) true t).map (fun s => s.2.size)).sum = ((t.kids true).map V.size).sum := by
    rw [← kidsV_snd A' B' (x.2 + 1) true t, List.map_map]; rfl
  have hks := t.kids_size true
  refine ⟨((ss ++ kidsV A' B' (x.2 + 1) true t).map fun s => s.2.size).sum, ?_, ⟨ss ++ kidsV A' B' (x.2 + 1) true t, fin ++ [(x.1, t)], ?_, rfl, ?_, ?_, ?_, ?_, ?_, ?_, ?_, ?_⟩, hOn, fun k hk => Nat.lt_of_lt_of_le (hOl k hk) hgrow, hr.below, hr.le⟩
  · rw [List.map_append, List.sum_append, hsz]; omega
  · rw [List.map_append, kidsV_fst, List.append_assoc]
  · rw [List.map_append, List.sum_append, hsz]; omega
  · intro s hs
    rcases List.mem_append.1 hs with hs | hs
    · exact hss s hs
    · have hd := kidsV_deep _ _ _ _ _ s hs
      have hmk : s.2 ∈ t.kids true := by rw [← kidsV_snd A' B' (x.2 + 1) true t]; exact List.mem_map.2 ⟨s, hs, rfl⟩
      have := V.mem_kids hmk
      exact ⟨by omega, ht.kid true hmk⟩
  · rw [hwt]
    intro n hn
    rcases List.mem_append.1 hn with hn | hn
    · exact (hr.fins n hn).1.more hsub
    · rw [List.mem_singleton.1 hn]
      refine ⟨A', ca', B', cb', hf, fun h0 => ?_, fun h0 => ?_⟩
      · obtain ⟨g, cs, e, _, _, _, _⟩ := hA.ex h0
        refine ⟨g, e, fun i y hy => ?_⟩
        refine List.mem_append.2 (.inr (List.mem_append.2 (.inr ?_)))
        rw [hKe, e]
        exact List.mem_append.2 (.inl (mem_kidL.2 ⟨i, y, hy, rfl⟩))
      · obtain ⟨g, cs, e, hg, hb, _, hc⟩ := hB.ex h0
        refine ⟨g, e, Nat.le_trans hlo hg, ⟨cs, hb⟩, fun i y hy => ⟨(hc i y hy).1, ?_⟩⟩
        refine List.mem_append.2 (.inr (List.mem_append.2 (.inr ?_)))
        rw [hKe, e]
        exact List.mem_append.2 (.inr (mem_kidM.2 ⟨i, y, hy, rfl⟩))
  · rw [hwt]
    intro n hn
    rcases List.mem_append.1 hn with hn | hn
    · exact (hr.waits n hn).1
    · exact (hK n hn).2.2
  · rw [hwt]
    intro n hn
    rcases hall n hn with hn | hn
    · exact hr.places n hn
    · exact (hK n hn).2.1
  · rw [hwt, (hperm.map Prod.fst).nodup_iff, List.map_append, List.nodup_append]
    refine ⟨hnd, hKn, fun a ha b hb hab => ?_⟩
    obtain ⟨n, hn, rfl⟩ := List.mem_map.1 ha
    obtain ⟨n', hn', rfl⟩ := List.mem_map.1 hb
    have h1 := hlow n hn
    have h2 := (hK n' hn').1
    rw [hab] at h1
    omega
  · rw [hwt]
    exact hsub _ hroot
  · rw [hwt]
    intro k hk n hn
    rcases hall n hn with hn | hn
    · exact hO k hk n hn
    · have h1 := hOl k hk
      have h2 := (hK n hn).1
      omega
end Go.Proofs.YtkenananejgcpaaGreatDoor.Jsn
