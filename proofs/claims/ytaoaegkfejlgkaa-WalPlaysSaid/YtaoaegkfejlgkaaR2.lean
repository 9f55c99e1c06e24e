/-
  What the document's Read of layer 8 needs: parts that are joined; a payload appended to a list; the ways of its loop.
-/
import Derived.Test.YtaoaegkfejlgkaaR1
namespace Go.Proofs.Ytaoaegkfejlgkaa.Dsk
open Go.RowKit
/-- Four parts, none of them nil, joined. -/
theorem join_four (w : World) (g : Nat) (a0 a1 a2 a3 : Addr) (n0 n1 n2 n3 c0 c1 c2 c3 : Nat) (S0 S1 S2 S3 : Nat → Prop) (l0 l1 l2 l3 : List UInt8) (hg : w.heap.size = g) (h0 : Rd w S0 (some a0) l0) (h1 : Rd w S1 (some a1) l1) (h2 : Rd w S2 (some a2) l2) (h3 : Rd w S3 (some a3) l3)
    (e0 : l0.length = n0) (e1 : l1.length = n1) (e2 : l2.length = n2) (e3 : l3.length = n3) (k0 : l0.length ≤ c0) (k1 : l1.length ≤ c1) (k2 : l2.length ≤ c2) (k3 : l3.length ≤ c3) (hm : l0.length + l1.length + l2.length + l3.length ≤ 1000000) (C : Array Value) (hC : C = #[.slice (some a0) n0 c0, .slice (some a1) n1 c1, .slice (some a2) n2 c2, .slice (some a3) n3 c3]) :
    Calls Try.prog 50 #[.slice (some ⟨g, 0, none⟩) 4 4] (w.alloc (.cells C 33)) fun e w' => ∃ A c, e = .returned (.slice A (l0 ++ (l1 ++ (l2 ++ l3))).length c) ∧ Rd w' (fun _ => True) A (l0 ++ (l1 ++ (l2 ++ l3))) ∧ Below w.heap.size w w' := by
  subst hg e0 e1 e2 e3
  have hf : [ns l0, ns l1, ns l2, ns l3].flatten = ns (l0 ++ (l1 ++ (l2 ++ l3))) := by simp [ns_append]
  have hb := Go.Proofs.Ytaoaegkfejlgkaa.Blk.new w 33 C
  have hc : ∀ j, (w.alloc (.cells C 33)).cell? ((⟨w.heap.size, 0, none⟩ : Addr).add j) = C[j]? := fun j => by rw [Addr.add_mid, Nat.zero_add, hb.cell]
  refine (join_any _ (some ⟨w.heap.size, 0, none⟩) 4 [ns l0, ns l1, ns l2, ns l3] (parts_four h0.rdb h1.rdb h2.rdb h3.rdb (by rw [ns_length]; exact k0) (by rw [ns_length]; exact k1) (by rw [ns_length]; exact k2) (by rw [ns_length]; exact k3) C (by simp only [ns_length]; exact hC)) ?_ (by simp) ?_).mono ?_
  · intro i hi ad Ai n ci e hcell hn
    injection e with e
    subst e
    rw [hc, hC] at hcell
    subst hn
    match i, hi with
    | 0, _ => cases hcell
    | 1, _ => cases hcell
    | 2, _ => cases hcell
    | 3, _ => cases hcell
  · rw [hf, ns_length]; simp only [List.length_append]; omega
  · rintro e w' ⟨v, rfl, hown, hb'⟩
    rw [hf] at hown
    obtain ⟨A, c, rfl, _, _, _, h8, h9⟩ := own_form hown
    refine ⟨A, c, by rw [ns_length], rd_of_rdb h8 (fun ad e => by obtain ⟨p, rfl, _, h⟩ := h9 ad e; exact ⟨trivial, h⟩), ((Below.refl w.heap.size w).alloc (Nat.le_refl _) _).trans (hb'.mono (by simp))⟩
/-- A payload appended to a list. -/
theorem recs_snoc {w w1 : World} {S : Nat → Prop} {rv v' : Value} {rs : List (List UInt8)} {xs : List Value} {x : List UInt8} {u : Value} (ho : w.ownsRow 0 33 1 rv rs.length xs) (hxs : ∀ (i : Nat) y, rs[i]? = some y → ∃ u, xs[i]? = some u ∧ PayAt w S rv.ownBlock u y) (hown : ∀ k, rv.ownBlock = some k → S k) (hp : PayAt w S rv.ownBlock u x) (o : Obj)
    (ho2 : w1.ownsRow 0 33 1 v' (rs.length + 1) (xs ++ [u])) (hg : (w.alloc o).grownBy w1 rv.ownBlock) (hw : v'.ownBlock = rv.ownBlock ∨ v'.ownBlock = some (w.alloc o).heap.size) :
    Recs w1 (fun k => S k ∨ (w.heap.size ≤ k ∧ k < w1.heap.size)) v' (rs ++ [x]) := by
  have hsz : w.heap.size + 1 ≤ w1.heap.size := by have := hg.size; simpa using this
  have hkp : ∀ k, k < w.heap.size → rv.ownBlock ≠ some k → w1.heap[k]? = w.heap[k]? := fun k hk hr => (hg.block k (by simp; omega) (fun e => hr e.symm)).trans (Below.heap_alloc _ _ _ hk)
  have hrw : ∀ k, v'.ownBlock = some k → (rv.ownBlock = some k ∨ (w.heap.size + 1 = k ∧ k < w1.heap.size)) := fun k ek => by
    rcases hw with h | h
    · exact .inl (h ▸ ek)
    · have hlt := (ho2.lt k ek).2
      rw [h] at ek; injection ek with ek; exact .inr ⟨by rw [← ek]; simp, hlt⟩
  have hkeep : ∀ {u : Value} {y : List UInt8}, PayAt w S rv.ownBlock u y → PayAt w1 (fun k => S k ∨ (w.heap.size ≤ k ∧ k < w1.heap.size)) v'.ownBlock u y := fun {u y} hp => by
    have hp2 := (hp.keep (w' := w1) (fun k _ hk hr => hkp k hk hr) (by omega)).more (S' := fun k => S k ∨ (w.heap.size ≤ k ∧ k < w1.heap.size)) (fun k h => .inl h)
    have hlt := hp.lt
    obtain ⟨q1, c1, e1, a1, a2, a3, a4, a5, a6⟩ := hp2
    obtain ⟨q2, c2, e2, b1, _⟩ := hlt
    rw [e1] at e2
    injection e2 with e2 _ _
    injection e2 with e2
    injection e2 with e2
    subst e2
    exact ⟨_, c1, e1, a1, a2, a3, a4, fun h => by rcases hrw _ h with h | h; exact a5 h; omega, a6⟩
  refine ⟨⟨xs ++ [u], ?_, fun i y hy => ?_⟩, fun k ek => ?_⟩
  · rw [List.length_append, List.length_singleton]
    exact ho2
  · have hl : xs.length = rs.length := by have := ho.1; omega
    by_cases hi : i < rs.length
    · rw [List.getElem?_append_left hi] at hy
      obtain ⟨u', a1, a2⟩ := hxs i y hy
      exact ⟨u', by rw [List.getElem?_append_left (by omega)]; exact a1, hkeep a2⟩
    · have hi2 : i = rs.length := by
        have := (List.getElem?_eq_some_iff.1 hy).1
        rw [List.length_append, List.length_singleton] at this
        omega
      subst hi2
      rw [List.getElem?_append_right (Nat.le_refl _)] at hy
      simp at hy
      subst hy
      exact ⟨u, by rw [List.getElem?_append_right (by omega), hl]; simp, hkeep hp⟩
  · rcases hrw k ek with h | h
    · exact .inl (hown k h)
    · exact .inr ⟨by omega, h.2⟩
/-- The half's generation is that of the bytes from there on. -/
theorem genOf_half (L : List UInt8) (a n : Nat) (hn : 9 ≤ n) : genOf (L.drop a) = genOf (half L a n) := by
  refine (genOf_agree (n := 9) ?_ (by omega)).symm
  unfold half
  rw [List.take_take, Nat.min_eq_left hn]
theorem half_dropN {L : List UInt8} {a n p : Nat} (h : 9 ≤ n - p) : num ((half L a n).drop p) = num (L.drop (a + p)) := by
  refine num_agree ?_
  unfold half
  rw [List.drop_take, List.take_take, List.drop_drop, Nat.min_eq_left (by omega)]
theorem half_dropM {L : List UInt8} {a n p : Nat} (h : 9 ≤ n - p) : num (((half L a n).drop p).drop 4) = num (L.drop (a + p + 4)) := by
  refine num_agree ?_
  rw [Nat.add_assoc]
  unfold half
  rw [List.drop_take, List.drop_take, List.take_take, List.drop_drop, List.drop_drop, Nat.min_eq_left (by omega)]
theorem half_dropm {L : List UInt8} {a n p : Nat} (h : 9 ≤ n - p) : ((half L a n).drop p).getD 8 0 = L.getD (a + p + 8) 0 := by
  unfold half
  rw [List.drop_take, List.drop_drop]
  simp [List.getD_eq_getElem?_getD, List.getElem?_drop, List.getElem?_take]
  rw [if_pos (by omega)]
theorem half_dropx {L : List UInt8} {a n p N : Nat} (h : 9 + N ≤ n - p) : (((half L a n).drop p).drop 9).take N = (L.drop (a + p + 9)).take N := by
  rw [Nat.add_assoc a p 9]
  unfold half
  rw [List.drop_take, List.drop_take, List.take_take, List.drop_drop, List.drop_drop, Nat.min_eq_left (by omega)]
end Go.Proofs.Ytaoaegkfejlgkaa.Dsk
