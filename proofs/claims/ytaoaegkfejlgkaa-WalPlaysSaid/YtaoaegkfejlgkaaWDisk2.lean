/-
  The steps of a log on a disk's bytes, in mathematics: opening, appending, beginning anew, each cut off at any byte.
-/
import Derived.Test.YtaoaegkfejlgkaaWDisk
namespace Go.Proofs.Ytaoaegkfejlgkaa.Dsk
open Go.RowKit
theorem splice_same {l b : List UInt8} {a : Nat} (h : a + b.length ≤ l.length) (i : Nat) (hi : ¬ (a ≤ i ∧ i < a + b.length)) : (splice l a b)[i]? = l[i]? := by
  rw [splice_get h, if_neg hi]
theorem take_le (b : List UInt8) (k : Nat) : (b.take k).length ≤ b.length := by rw [List.length_take]; omega
theorem recB_mark (g p : Nat) (x : List UInt8) (m : UInt8) : (recB g p x m).getD 8 0 = m := by
  have e : recB g p x m = (be4 x.length ++ be4 (rsum g p x)) ++ m :: x := by simp [recB]
  rw [e, List.getD_eq_getElem?_getD, List.getElem?_append_right (by simp [be4_length])]
  simp [be4_length]
theorem recB_other (g p : Nat) (x : List UInt8) (m m' : UInt8) (i : Nat) (hi : i ≠ 8) : (recB g p x m)[i]? = (recB g p x m')[i]? := by
  have e : ∀ m, recB g p x m = (be4 x.length ++ be4 (rsum g p x)) ++ m :: x := fun m => by simp [recB]
  rw [e, e]
  have hl : (be4 x.length ++ be4 (rsum g p x)).length = 8 := rfl
  generalize be4 x.length ++ be4 (rsum g p x) = A at *
  by_cases h : i < 8
  · rw [List.getElem?_append_left (by omega), List.getElem?_append_left (by omega)]
  · rw [List.getElem?_append_right (by omega), List.getElem?_append_right (by omega), hl]
    obtain ⟨j, rfl⟩ : ∃ j, i = 8 + (j + 1) := ⟨i - 9, by omega⟩
    rw [show 8 + (j + 1) - 8 = j + 1 by omega, List.getElem?_cons_succ, List.getElem?_cons_succ]
theorem headB_mark (g : Nat) (m : UInt8) : (headB g m).getD 8 0 = m := by
  have e : headB g m = (be4 g ++ be4 (csum (be4 g))) ++ m :: List.replicate 7 0 := by simp [headB]
  rw [e, List.getD_eq_getElem?_getD, List.getElem?_append_right (by simp [be4_length])]
  simp [be4_length]
theorem headB_other (g : Nat) (m m' : UInt8) (i : Nat) (hi : i ≠ 8) : (headB g m)[i]? = (headB g m')[i]? := by
  have e : ∀ m, headB g m = (be4 g ++ be4 (csum (be4 g))) ++ m :: List.replicate 7 0 := fun m => by simp [headB]
  rw [e, e]
  have hl : (be4 g ++ be4 (csum (be4 g))).length = 8 := rfl
  generalize be4 g ++ be4 (csum (be4 g)) = A at *
  by_cases h : i < 8
  · rw [List.getElem?_append_left (by omega), List.getElem?_append_left (by omega)]
  · rw [List.getElem?_append_right (by omega), List.getElem?_append_right (by omega), hl]
    obtain ⟨j, rfl⟩ : ∃ j, i = 8 + (j + 1) := ⟨i - 9, by omega⟩
    rw [show 8 + (j + 1) - 8 = j + 1 by omega, List.getElem?_cons_succ, List.getElem?_cons_succ]
/-- A write of a record or a head without its mark, and of the mark, is that with its mark. -/
theorem splice_mark {l b b' : List UInt8} {a : Nat} (h : a + b.length ≤ l.length) (hl : b'.length = b.length) (h9 : 9 ≤ b.length) (ho : ∀ i, i ≠ 8 → b[i]? = b'[i]?) (hm : b'[8]? = some 1) : splice (splice l a b) (a + 8) [1] = splice l a b' := by
  have h1 : (splice l a b).length = l.length := splice_length _ _ _ h
  apply List.ext_getElem?
  intro i
  rw [splice_get (by rw [h1, List.length_singleton]; omega), splice_get h, splice_get (by omega), List.length_singleton, hl]
  by_cases h8 : i = a + 8
  · subst h8
    rw [if_pos (by omega), if_pos (by omega), show a + 8 - (a + 8) = 0 by omega, show a + 8 - a = 8 by omega, hm]
    rfl
  · rw [if_neg (by omega)]
    by_cases hr : a ≤ i ∧ i < a + b.length
    · rw [if_pos hr, if_pos hr, ho _ (by omega)]
    · rw [if_neg hr, if_neg hr]
theorem half_drop {L C : List UInt8} {st sz p : Nat} (hp : p ≤ sz) (h : ∀ i, i < sz - p → L[st + (p + i)]? = C[i]?) (hC : C.length = sz - p) : (half L st sz).drop p = C := by
  apply List.ext_getElem?
  intro i
  unfold half
  rw [List.getElem?_drop, List.getElem?_take]
  by_cases hi : i < sz - p
  · rw [if_pos (by omega), List.getElem?_drop, h i hi]
  · rw [if_neg (by omega), List.getElem?_eq_none (by omega)]
section
variable {L : List UInt8} {sz st g q : Nat} {rs : List (List UInt8)}
/-- Opening: zeros behind the last record. -/
theorem open_torn (h : Wk L sz st g rs q) : Torn (fun L' => Wk L' sz st g rs q) (fun L' => Wk L' sz st g rs q ∧ Blank L' sz st q) L [(st + q, List.replicate (sz - q) 0)] := by
  have h1 := h.qsz
  have h2 := h.len
  have h3 := h.hst
  have hb : st + q + (List.replicate (sz - q) (0 : UInt8)).length ≤ L.length := by rw [List.length_replicate]; omega
  have key : ∀ k, Wk (splice L (st + q) ((List.replicate (sz - q) 0).take k)) sz st g rs q := fun k => by
    have hk : st + q + ((List.replicate (sz - q) (0 : UInt8)).take k).length ≤ L.length := by have := take_le (List.replicate (sz - q) (0 : UInt8)) k; omega
    have hkl : ((List.replicate (sz - q) (0 : UInt8)).take k).length ≤ sz - q := by have := take_le (List.replicate (sz - q) (0 : UInt8)) k; rwa [List.length_replicate] at this
    refine h.tail' (splice_length _ _ _ hk) (fun i hi => splice_same hk i (by omega)) ?_
    by_cases hq : q + 8 < sz
    · refine .inl ?_
      rw [splice_getD hk]
      split
      · rw [List.take_replicate, List.getD_eq_getElem?_getD, List.getElem?_replicate]
        split <;> decide
      · have := h.tail
        rw [half_getD _ _ _ _ hq, ← Nat.add_assoc] at this
        exact this
    · exact .inr (by omega)
  refine ⟨hb, key, ?_, ?_⟩
  · have := key (sz - q)
    rwa [List.take_of_length_le (by rw [List.length_replicate]; omega)] at this
  · intro i hi hi2
    rw [splice_getD hb, if_pos (by rw [List.length_replicate]; omega), List.getD_eq_getElem?_getD, List.getElem?_replicate]
    split <;> rfl
/-- Appending. -/
theorem append_torn (h : Wk L sz st g rs q) (hz : Blank L sz st q) {x : List UInt8} (hx : 1 ≤ x.length) (hx' : x.length ≤ 65536) (hq : q + (9 + x.length) ≤ sz) :
    Torn (fun L' => Wk L' sz st g rs q ∨ Wk L' sz st g (rs ++ [x]) (q + (9 + x.length))) (fun L' => Wk L' sz st g (rs ++ [x]) (q + (9 + x.length)) ∧ Blank L' sz st (q + (9 + x.length))) L [(st + q, recB g q x 0), (st + q + 8, [1])] := by
  have h2 := h.len
  have h3 := h.hst
  have h4 := h.q16
  have hb : st + q + (recB g q x 0).length ≤ L.length := by rw [recB_length]; omega
  have key : ∀ k, Wk (splice L (st + q) ((recB g q x 0).take k)) sz st g rs q := fun k => by
    have hk : st + q + ((recB g q x 0).take k).length ≤ L.length := by have := take_le (recB g q x 0) k; omega
    have hkl : ((recB g q x 0).take k).length ≤ 9 + x.length := by have := take_le (recB g q x 0) k; rwa [recB_length] at this
    refine h.tail' (splice_length _ _ _ hk) (fun i hi => splice_same hk i (by omega)) (.inl ?_)
    rw [splice_getD hk]
    split
    · rename_i hc
      have e : ((recB g q x 0).take k).getD (st + q + 8 - (st + q)) 0 = 0 := by
        rw [show st + q + 8 - (st + q) = 8 by omega, List.getD_eq_getElem?_getD, List.getElem?_take]
        split
        · have := recB_mark g q x 0
          rwa [List.getD_eq_getElem?_getD] at this
        · rfl
      rw [e]; decide
    · have := hz (q + 8) (by omega) (by omega)
      rw [← Nat.add_assoc] at this
      rw [this]; decide
  have hl1 : (splice L (st + q) (recB g q x 0)).length = L.length := splice_length _ _ _ hb
  have hb1 : st + q + (recB g q x 1).length ≤ L.length := by rw [recB_length]; omega
  have e2 : splice (splice L (st + q) (recB g q x 0)) (st + q + 8) [1] = splice L (st + q) (recB g q x 1) :=
    splice_mark hb (by rw [recB_length, recB_length]) (by rw [recB_length]; omega) (fun i hi => recB_other g q x 0 1 i hi) (by
      have := recB_mark g q x 1
      rw [List.getD_eq_getElem?_getD] at this
      cases hh : (recB g q x 1)[8]? with
      | none => rw [hh] at this; cases this
      | some v => rw [hh] at this; simpa using this)
  have hfin : Wk (splice L (st + q) (recB g q x 1)) sz st g (rs ++ [x]) (q + (9 + x.length)) ∧ Blank (splice L (st + q) (recB g q x 1)) sz st (q + (9 + x.length)) := by
    have hbl : Blank (splice L (st + q) (recB g q x 1)) sz st (q + (9 + x.length)) := fun i hi hi2 => by
      rw [splice_getD hb1, if_neg (by rw [recB_length]; omega)]
      exact hz i (by omega) hi2
    refine ⟨?_, hbl⟩
    have hh : half (splice L (st + q) (recB g q x 1)) st sz = splice (half L st sz) q (recB g q x 1) := half_splice_same (by omega) (by rw [recB_length]; omega)
    have ho : half (splice L (st + q) (recB g q x 1)) (sz - st) sz = half L (sz - st) sz := half_splice_other hb1 (by rw [recB_length]; omega)
    have ht : (splice (half L st sz) q (recB g q x 1)).take q = (half L st sz).take q := splice_take _ _ _ (by rw [h.hlen]; omega)
    have hlen : (splice (half L st sz) q (recB g q x 1)).length = (half L st sz).length := splice_length _ _ _ (by rw [h.hlen, recB_length]; omega)
    have hd : (splice (half L st sz) q (recB g q x 1)).drop q = recB g q x 1 ++ (half L st sz).drop (q + (recB g q x 1).length) := by
      unfold splice
      exact List.drop_left' (by rw [List.length_take, h.hlen]; omega)
    have hch : Ch (half (splice L (st + q) (recB g q x 1)) st sz) g 16 (rs ++ [x]) (q + (9 + x.length)) := by
      rw [hh]
      exact (h.ch.agree hlen ht (Nat.le_refl _)).snoc (payAt_at hd hx hx')
    refine ⟨h.hst, h.hsz, by rw [splice_length _ _ _ hb1]; omega, by rw [hh, genOf_agree ht (by omega)]; exact h.gen, h.g1, by rw [ho]; exact h.oth, hch, ?_⟩
    by_cases hq8 : q + (9 + x.length) + 8 < sz
    · rw [half_getD _ _ _ _ hq8, hbl _ (by omega) hq8]; decide
    · rw [List.getD_eq_getElem?_getD, List.getElem?_eq_none (by rw [hh, hlen, h.hlen]; omega)]; decide
  refine ⟨hb, fun k => .inl (key k), by rw [hl1, List.length_singleton]; rw [recB_length] at hb; omega, fun k => ?_, ?_⟩
  · cases k with
    | zero =>
      refine .inl ?_
      have := key (recB g q x 0).length
      rw [List.take_length] at this
      simpa [splice] using this
    | succ k => rw [show ([1] : List UInt8).take (k + 1) = [1] from by simp, e2]; exact .inr hfin.1
  · show Wk (splice _ _ _) _ _ _ _ _ ∧ Blank (splice _ _ _) _ _ _
    rw [e2]; exact hfin
/-- The head of a half, and its mark. -/
theorem head_torn {o : Nat} (hl : o + sz ≤ L.length) (hs : 500 ≤ sz) (hmk : L.getD (o + 8) 0 ≠ 1) {P Q : List UInt8 → Prop}
    (hP : ∀ L' : List UInt8, L'.length = L.length → (∀ i, (i < o ∨ o + 16 ≤ i) → L'[i]? = L[i]?) → L'.getD (o + 8) 0 ≠ 1 → P L') (hQ : Q (splice L o (headB g 1))) (hPQ : ∀ L', Q L' → P L') :
    Torn P Q L [(o, headB g 0), (o + 8, [1])] := by
  have hb : o + (headB g 0).length ≤ L.length := by rw [headB_length]; omega
  have key : ∀ k, P (splice L o ((headB g 0).take k)) := fun k => by
    have hk : o + ((headB g 0).take k).length ≤ L.length := by have := take_le (headB g 0) k; omega
    have hkl : ((headB g 0).take k).length ≤ 16 := by have := take_le (headB g 0) k; rwa [headB_length] at this
    refine hP _ (splice_length _ _ _ hk) (fun i hi => splice_same hk i (by omega)) ?_
    rw [splice_getD hk]
    split
    · have e : ((headB g 0).take k).getD (o + 8 - o) 0 = 0 := by
        rw [show o + 8 - o = 8 by omega, List.getD_eq_getElem?_getD, List.getElem?_take]
        split
        · have := headB_mark g 0
          rwa [List.getD_eq_getElem?_getD] at this
        · rfl
      rw [e]; decide
    · exact hmk
  have hl1 : (splice L o (headB g 0)).length = L.length := splice_length _ _ _ hb
  have e2 : splice (splice L o (headB g 0)) (o + 8) [1] = splice L o (headB g 1) :=
    splice_mark hb (by rw [headB_length, headB_length]) (by rw [headB_length]; omega) (fun i hi => headB_other g 0 1 i hi) (by
      have := headB_mark g 1
      rw [List.getD_eq_getElem?_getD] at this
      cases hh : (headB g 1)[8]? with
      | none => rw [hh] at this; cases this
      | some v => rw [hh] at this; simpa using this)
  refine ⟨hb, key, by rw [hl1, List.length_singleton]; omega, fun k => ?_, ?_⟩
  · cases k with
    | zero =>
      have := key (headB g 0).length
      rw [List.take_length] at this
      simpa [splice] using this
    | succ k => rw [show ([1] : List UInt8).take (k + 1) = [1] from by simp, e2]; exact hPQ _ hQ
  · show Q (splice _ _ _)
    rw [e2]; exact hQ
end
end Go.Proofs.Ytaoaegkfejlgkaa.Dsk
