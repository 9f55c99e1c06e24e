/-
  Beginning anew on a disk's bytes, in mathematics, cut off at any byte; and the first log of a disk of zeros.
-/
import Derived.Test.YtaoaegkfejlgkaaWDisk2
namespace Go.Proofs.Ytaoaegkfejlgkaa.Dsk
open Go.RowKit
/-- On the way to a new half at o: the log's own half is as it was, the other one doesn't count. -/
structure Way' (L : List UInt8) (sz st o : Nat) (L' : List UInt8) : Prop where
  len : L'.length = L.length
  own : ∀ i, st ≤ i → i < st + sz → L'[i]? = L[i]?
  mark : L'.getD (o + 8) 0 ≠ 1
/-- What stands behind the other half's head. -/
def Body (o sz : Nat) (C : List UInt8) (L' : List UInt8) : Prop := ∀ i, i < sz - 16 → L'[o + (16 + i)]? = C[i]?
def blankB (l : List UInt8) : Bool := l.all (· == 0)
theorem blankB_iff {l : List UInt8} : blankB l = true ↔ ∀ i, l.getD i 0 = 0 := by
  unfold blankB
  rw [List.all_eq_true]
  constructor
  · intro h i
    rw [List.getD_eq_getElem?_getD]
    cases hh : l[i]? with
    | none => rfl
    | some v => have := h v (List.mem_of_getElem? hh); simpa using this
  · intro h x hx
    obtain ⟨i, hi⟩ := List.getElem?_of_mem hx
    have := h i
    rw [List.getD_eq_getElem?_getD, hi] at this
    simpa using this
theorem blankB_rep {l : List UInt8} (h : blankB l = true) : l = List.replicate l.length 0 := by
  apply List.ext_getElem?
  intro i
  have := blankB_iff.1 h i
  rw [List.getElem?_replicate]
  rw [List.getD_eq_getElem?_getD] at this
  split
  · rename_i hi
    rw [List.getElem?_eq_getElem hi] at this ⊢
    simpa using this
  · rename_i hi; exact List.getElem?_eq_none (by omega)
/-- The writes of beginning anew. -/
def anewWs (L : List UInt8) (sz o g : Nat) (rs : List (List UInt8)) : List Wr :=
  [(o + 8, [0])] ++ ((if blankB (half L (o + 16) (sz - 16)) then [] else [(o + 16, List.replicate (sz - 16) 0)]) ++ ((if recsB g 16 rs = [] then [] else [(o + 16, recsB g 16 rs)]) ++ [(o, headB g 0), (o + 8, [1])]))
section
variable {L : List UInt8} {sz st g q : Nat} {rs : List (List UInt8)}
theorem Way'.wk (h : Wk L sz st g rs q) {L' : List UInt8} (w : Way' L sz st (sz - st) L') : Wk L' sz st g rs q := h.other w.len w.own (.inl w.mark)
/-- A write behind the other half's head. -/
theorem Way'.put {o : Nat} {L' b : List UInt8} (w : Way' L sz st o L') (hL : 2 * sz ≤ L.length) (ho : o = sz - st) (hst : st = 0 ∨ st = sz) (hs : 500 ≤ sz) (hb : 16 + b.length ≤ sz) : Way' L sz st o (splice L' (o + 16) b) := by
  have hl := w.len
  have hb' : o + 16 + b.length ≤ L'.length := by omega
  refine ⟨by rw [splice_length _ _ _ hb']; exact hl, fun i h1 h2 => by rw [splice_same hb' i (by omega)]; exact w.own i h1 h2, ?_⟩
  rw [splice_getD hb', if_neg (by omega)]
  exact w.mark
theorem anew_torn (h : Wk L sz st g rs q) (ns : List (List UInt8)) (hns : ∀ x ∈ ns, 1 ≤ x.length ∧ x.length ≤ 65536) (hq : 16 + (recsB (g + 1) 16 ns).length ≤ sz) (hg : g + 1 ≤ 2147483647) :
    Torn (fun L' => Wk L' sz st g rs q ∨ Wk L' sz (sz - st) (g + 1) ns (16 + (recsB (g + 1) 16 ns).length)) (fun L' => Wk L' sz (sz - st) (g + 1) ns (16 + (recsB (g + 1) 16 ns).length) ∧ Blank L' sz (sz - st) (16 + (recsB (g + 1) 16 ns).length)) L (anewWs L sz (sz - st) (g + 1) ns) := by
  have h2 := h.len
  have h3 := h.hst
  have hs := h.hsz
  obtain ⟨o, ho⟩ : ∃ o, o = sz - st := ⟨_, rfl⟩
  rw [← ho]
  have hoo : o + sz ≤ L.length := by omega
  unfold anewWs
  -- the mark
  refine Torn.append (R := fun L' => Way' L sz st o L' ∧ Body o sz (half L (o + 16) (sz - 16)) L') ?_ ?_
  · have hb : o + 8 + ([0] : List UInt8).length ≤ L.length := by rw [List.length_singleton]; omega
    have hw : Way' L sz st o (splice L (o + 8) [0]) := ⟨splice_length _ _ _ hb, fun i a b => splice_same hb i (by rw [List.length_singleton]; omega), by rw [splice_getD hb, if_pos (by rw [List.length_singleton]; omega), show o + 8 - (o + 8) = 0 by omega]; decide⟩
    refine ⟨hb, fun k => ?_, hw, fun i hi => ?_⟩
    · cases k with
      | zero => refine .inl ?_; simpa [splice] using h
      | succ k => rw [show ([0] : List UInt8).take (k + 1) = [0] from by simp]; exact .inl (Way'.wk h (ho ▸ hw))
    · rw [splice_same hb _ (by rw [List.length_singleton]; omega)]
      unfold half
      rw [List.getElem?_take, if_pos hi, List.getElem?_drop]
      congr 1; omega
  rintro L1 ⟨hw1, hb1⟩
  -- zeros
  refine Torn.append (R := fun L' => Way' L sz st o L' ∧ Body o sz (List.replicate (sz - 16) 0) L') ?_ ?_
  · by_cases hbl : blankB (half L (o + 16) (sz - 16)) = true
    · rw [if_pos hbl]
      refine ⟨hw1, ?_⟩
      have := blankB_rep hbl
      rw [half_length (by omega)] at this
      rw [this] at hb1
      exact hb1
    · rw [if_neg hbl]
      have hl1 := hw1.len
      have hb : o + 16 + (List.replicate (sz - 16) (0 : UInt8)).length ≤ L1.length := by rw [List.length_replicate]; omega
      refine ⟨hb, fun k => .inl ?_, ?_, fun i hi => ?_⟩
      · have hk := take_le (List.replicate (sz - 16) (0 : UInt8)) k
        rw [List.length_replicate] at hk
        have := hw1.put h2 ho h3 hs (b := (List.replicate (sz - 16) (0 : UInt8)).take k) (by omega)
        exact Way'.wk h (ho ▸ this)
      · exact hw1.put h2 ho h3 hs (by rw [List.length_replicate]; omega)
      · rw [splice_get hb, if_pos (by rw [List.length_replicate]; omega)]
        congr 1; omega
  rintro L2 ⟨hw2, hb2⟩
  -- the records
  obtain ⟨C, hC⟩ : ∃ C, C = recsB (g + 1) 16 ns := ⟨_, rfl⟩
  rw [← hC] at hq ⊢
  refine Torn.append (R := fun L' => Way' L sz st o L' ∧ Body o sz (C ++ List.replicate (sz - 16 - C.length) 0) L') ?_ ?_
  · by_cases hn : C = []
    · rw [if_pos hn]
      refine ⟨hw2, ?_⟩
      rw [hn]
      exact hb2
    · rw [if_neg hn]
      have hl2 := hw2.len
      have hb : o + 16 + C.length ≤ L2.length := by omega
      refine ⟨hb, fun k => .inl ?_, hw2.put h2 ho h3 hs hq, fun i hi => ?_⟩
      · have hk := take_le C k
        have := hw2.put h2 ho h3 hs (b := C.take k) (by omega)
        exact Way'.wk h (ho ▸ this)
      · rw [splice_get hb]
        by_cases hc : i < C.length
        · rw [if_pos (by omega), List.getElem?_append_left hc]
          congr 1; omega
        · rw [if_neg (by omega), hb2 i hi, List.getElem?_append_right (by omega), List.getElem?_replicate, List.getElem?_replicate, if_pos hi, if_pos (by omega)]
  rintro L3 ⟨hw3, hb3⟩
  -- the head
  have hl3 := hw3.len
  have hbh : o + (headB (g + 1) 1).length ≤ L3.length := by rw [headB_length]; omega
  have hfin : Wk (splice L3 o (headB (g + 1) 1)) sz o (g + 1) ns (16 + C.length) ∧ Blank (splice L3 o (headB (g + 1) 1)) sz o (16 + C.length) := by
    have hbl : Blank (splice L3 o (headB (g + 1) 1)) sz o (16 + C.length) := fun i hi hi2 => by
      rw [splice_getD hbh, if_neg (by rw [headB_length]; omega)]
      obtain ⟨j, rfl⟩ : ∃ j, i = 16 + j := ⟨i - 16, by omega⟩
      rw [List.getD_eq_getElem?_getD, hb3 j (by omega), List.getElem?_append_right (by omega), List.getElem?_replicate]
      split <;> rfl
    have hhl : (half (splice L3 o (headB (g + 1) 1)) o sz).length = sz := half_length (by rw [splice_length _ _ _ hbh]; omega)
    have hd16 : (half (splice L3 o (headB (g + 1) 1)) o sz).drop 16 = C ++ List.replicate (sz - 16 - C.length) 0 := by
      refine half_drop (by omega) (fun i hi => ?_) (by rw [List.length_append, List.length_replicate]; omega)
      rw [splice_same hbh _ (by rw [headB_length]; omega)]
      exact hb3 i hi
    have hg0 : genOf (half (splice L3 o (headB (g + 1) 1)) o sz) = g + 1 := by
      have htk : (half (splice L3 o (headB (g + 1) 1)) o sz).take 16 = headB (g + 1) 1 := by
        apply List.ext_getElem?
        intro i
        rw [List.getElem?_take]
        split
        · rename_i hi
          unfold half
          rw [List.getElem?_take, if_pos (by omega), List.getElem?_drop, splice_get hbh, if_pos (by rw [headB_length]; omega)]
          congr 1; omega
        · rw [List.getElem?_eq_none (by rw [headB_length]; omega)]
      have e := (List.take_append_drop 16 (half (splice L3 o (headB (g + 1) 1)) o sz)).symm
      rw [htk, hd16] at e
      exact genOf_head e hg
    have hch : Ch (half (splice L3 o (headB (g + 1) 1)) o sz) (g + 1) 16 ns (16 + C.length) := by
      rw [hC]
      rw [hC] at hd16
      exact Ch_recs ns 16 _ hd16 hns
    have hoth : half (splice L3 o (headB (g + 1) 1)) (sz - o) sz = half L st sz := by
      rw [show sz - o = st by omega]
      refine half_ext fun i hi => ?_
      rw [splice_same hbh _ (by rw [headB_length]; omega)]
      exact hw3.own _ (by omega) (by omega)
    refine ⟨⟨by omega, hs, by rw [splice_length _ _ _ hbh]; omega, hg0, by omega, by rw [hoth, h.gen]; omega, hch, ?_⟩, hbl⟩
    by_cases hq8 : 16 + C.length + 8 < sz
    · rw [half_getD _ _ _ _ hq8, hbl _ (by omega) hq8]; decide
    · rw [List.getD_eq_getElem?_getD, List.getElem?_eq_none (by rw [hhl]; omega)]; decide
  refine head_torn (sz := sz) (by omega) hs hw3.mark (fun L' a b c => .inl ?_) hfin (fun L' hQ => .inr hQ.1)
  have : Way' L sz st o L' := ⟨a.trans hw3.len, fun i h5 h6 => (b i (by omega)).trans (hw3.own i h5 h6), c⟩
  exact Way'.wk h (ho ▸ this)
end
theorem zeros_get (n i : Nat) : (List.replicate n (0 : UInt8)).getD i 0 = 0 := by
  rw [List.getD_eq_getElem?_getD, List.getElem?_replicate]
  split <;> rfl
theorem half_zeros (n a m : Nat) (h : a + m ≤ n) : half (List.replicate n 0) a m = List.replicate m 0 := by
  unfold half
  rw [List.drop_replicate, List.take_replicate]
  congr 1; omega
theorem genOf_zeros (m : Nat) : genOf (List.replicate m 0) = 0 := by
  unfold genOf
  rw [if_neg]
  rintro ⟨c, _⟩
  rw [zeros_get] at c
  cases c
/-- The first log of a disk of zeros. -/
theorem create_torn {n sz : Nat} (hs : 500 ≤ sz) (hn : 2 * sz ≤ n) : Torn (fun _ => True) (fun L' => Wk L' sz 0 1 [] 16 ∧ Blank L' sz 0 16) (List.replicate n 0) [(0, headB 1 0), (8, [1])] := by
  have hb : 0 + (headB 1 1).length ≤ (List.replicate n (0 : UInt8)).length := by rw [headB_length, List.length_replicate]; omega
  have hl : (splice (List.replicate n 0) 0 (headB 1 1)).length = n := by rw [splice_length _ _ _ hb, List.length_replicate]
  refine head_torn (o := 0) (sz := sz) (by rw [List.length_replicate]; omega) hs (by rw [zeros_get]; decide) (fun _ _ _ _ => trivial) ?_ (fun _ _ => trivial)
  have hbl : Blank (splice (List.replicate n 0) 0 (headB 1 1)) sz 0 16 := fun i hi hi2 => by
    rw [splice_getD hb, if_neg (by rw [headB_length]; omega)]
    exact zeros_get _ _
  have hh : half (splice (List.replicate n 0) 0 (headB 1 1)) 0 sz = headB 1 1 ++ List.replicate (sz - 16) 0 := by
    have e := half_splice_same (L := List.replicate n 0) (b := headB 1 1) (a := 0) (n := sz) (k := 0) (by rw [List.length_replicate]; omega) (by rw [headB_length]; omega)
    rw [Nat.zero_add] at e
    rw [e, half_zeros _ _ _ (by omega)]
    unfold splice
    rw [List.take_zero, List.nil_append, headB_length, List.drop_replicate, Nat.zero_add]
  have ho : half (splice (List.replicate n 0) 0 (headB 1 1)) (sz - 0) sz = List.replicate sz 0 := by
    rw [Nat.sub_zero, half_splice_other hb (by rw [headB_length]; omega), half_zeros _ _ _ (by omega)]
  refine ⟨⟨.inl rfl, hs, by omega, by rw [hh]; exact genOf_head rfl (by decide), by decide, by rw [ho, genOf_zeros]; decide, rfl, ?_⟩, hbl⟩
  rw [half_getD _ _ _ _ (by omega), hbl _ (by omega) (by omega)]; decide
end Go.Proofs.Ytaoaegkfejlgkaa.Dsk
