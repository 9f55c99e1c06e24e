/-
  A log on a disk's bytes, in mathematics: what a half has, and that each step of opening, appending and beginning anew, cut off at any byte, leaves the records as they were, or as they were to become.
-/
import Derived.Test.YtaoaegkfejlgkaaWMath
namespace Go.Proofs.Ytaoaegkfejlgkaa.Dsk
open Go.RowKit
/-- The half of n bytes that begins at a. -/
def half (L : List UInt8) (a n : Nat) : List UInt8 := (L.drop a).take n
theorem half_length {L : List UInt8} {a n : Nat} (h : a + n ≤ L.length) : (half L a n).length = n := by
  unfold half; rw [List.length_take, List.length_drop]; omega
theorem half_getD (L : List UInt8) (a n i : Nat) (hi : i < n) : (half L a n).getD i 0 = L.getD (a + i) 0 := by
  simp [half, List.getD_eq_getElem?_getD, hi]
theorem half_ext {L L' : List UInt8} {a n : Nat} (h : ∀ i, i < n → L'[a + i]? = L[a + i]?) : half L' a n = half L a n := by
  apply List.ext_getElem?
  intro i
  unfold half
  rw [List.getElem?_take, List.getElem?_take]
  split
  · rename_i hi; rw [List.getElem?_drop, List.getElem?_drop]; exact h i hi
  · rfl
theorem splice_get {l b : List UInt8} {a : Nat} (h : a + b.length ≤ l.length) (i : Nat) : (splice l a b)[i]? = if a ≤ i ∧ i < a + b.length then b[i - a]? else l[i]? := by
  unfold splice
  have h3 : (l.take a).length = a := by rw [List.length_take]; omega
  rw [List.getElem?_append, List.getElem?_append, h3]
  by_cases h1 : i < a
  · rw [if_pos h1, if_neg (by omega), List.getElem?_take, if_pos h1]
  · rw [if_neg h1]
    by_cases h2 : i < a + b.length
    · rw [if_pos (by omega), if_pos ⟨by omega, h2⟩]
    · rw [if_neg (by omega), if_neg (by omega), List.getElem?_drop]
      congr 1
      omega
theorem splice_getD {l b : List UInt8} {a : Nat} (h : a + b.length ≤ l.length) (i : Nat) : (splice l a b).getD i 0 = if a ≤ i ∧ i < a + b.length then b.getD (i - a) 0 else l.getD i 0 := by
  rw [List.getD_eq_getElem?_getD, splice_get h]
  split <;> rw [List.getD_eq_getElem?_getD]
theorem half_splice_other {L b : List UInt8} {a n c : Nat} (h : a + b.length ≤ L.length) (hd : a + b.length ≤ c ∨ c + n ≤ a) : half (splice L a b) c n = half L c n :=
  half_ext fun i hi => by rw [splice_get h, if_neg (by omega)]
theorem half_splice_same {L b : List UInt8} {a n k : Nat} (hL : a + n ≤ L.length) (h : k + b.length ≤ n) : half (splice L (a + k) b) a n = splice (half L a n) k b := by
  apply List.ext_getElem?
  intro i
  rw [splice_get (by rw [half_length hL]; exact h)]
  unfold half
  rw [List.getElem?_take, List.getElem?_take]
  by_cases hi : i < n
  · rw [if_pos hi, List.getElem?_drop, splice_get (by omega)]
    by_cases hc : k ≤ i ∧ i < k + b.length
    · rw [if_pos hc, if_pos (by omega)]; congr 1; omega
    · rw [if_neg hc, if_neg (by omega), if_pos hi, List.getElem?_drop]
  · rw [if_neg hi, if_neg (by omega), if_neg hi]
theorem splice_take (l b : List UInt8) (a : Nat) (h : a ≤ l.length) : (splice l a b).take a = l.take a := by
  unfold splice
  rw [List.take_append_of_le_length (by rw [List.length_take]; omega), List.take_take, Nat.min_self]
/-- The disk's bytes L have, in the half at st, the records rs of generation g, up to q; what is behind is no record. -/
structure Wk (L : List UInt8) (sz st g : Nat) (rs : List (List UInt8)) (q : Nat) : Prop where
  hst : st = 0 ∨ st = sz
  hsz : 500 ≤ sz
  len : 2 * sz ≤ L.length
  gen : genOf (half L st sz) = g
  g1 : 1 ≤ g
  oth : genOf (half L (sz - st) sz) < g
  ch : Ch (half L st sz) g 16 rs q
  tail : (half L st sz).getD (q + 8) 0 ≠ 1
/-- Behind the last record is nothing. -/
def Blank (L : List UInt8) (sz st q : Nat) : Prop := ∀ i, q ≤ i → i < sz → L.getD (st + i) 0 = 0
section
variable {L L' : List UInt8} {sz st g q : Nat} {rs : List (List UInt8)}
theorem Wk.hlen (h : Wk L sz st g rs q) : (half L st sz).length = sz := half_length (by have := h.len; have := h.hst; omega)
theorem Wk.q16 (h : Wk L sz st g rs q) : 16 ≤ q := h.ch.le
theorem Wk.qsz (h : Wk L sz st g rs q) : q ≤ sz := by
  have := h.ch.end_le (by rw [h.hlen]; have := h.hsz; omega)
  rwa [h.hlen] at this
theorem Wk.gle (h : Wk L sz st g rs q) : g ≤ 2147483647 := by rw [← h.gen]; exact genOf_le _
theorem Wk.none (h : Wk L sz st g rs q) : payAt (half L st sz) g q = .none := payAt_none_of_mark h.tail
/-- Bytes that agree but for what is behind the last record, in whose mark's place no mark stands. -/
theorem Wk.tail' (h : Wk L sz st g rs q) (hl : L'.length = L.length) (ha : ∀ i, (i < st + q ∨ st + sz ≤ i) → L'[i]? = L[i]?) (hm : L'.getD (st + q + 8) 0 ≠ 1 ∨ sz ≤ q + 8) : Wk L' sz st g rs q := by
  have h1 := h.qsz
  have h2 := h.q16
  have h3 := h.hst
  have h4 := h.len
  have ho : half L' (sz - st) sz = half L (sz - st) sz := half_ext fun i hi => ha _ (by omega)
  have ht : (half L' st sz).take q = (half L st sz).take q := by
    apply List.ext_getElem?
    intro i
    rw [List.getElem?_take, List.getElem?_take]
    split
    · rename_i hi
      unfold half
      rw [List.getElem?_take, List.getElem?_take, if_pos (by omega), if_pos (by omega), List.getElem?_drop, List.getElem?_drop]
      exact ha _ (by omega)
    · rfl
  have hl' : (half L' st sz).length = (half L st sz).length := by rw [h.hlen]; exact half_length (by omega)
  refine ⟨h.hst, h.hsz, by omega, by rw [genOf_agree ht (by omega)]; exact h.gen, h.g1, by rw [ho]; exact h.oth, h.ch.agree hl' ht (Nat.le_refl _), ?_⟩
  by_cases hq : q + 8 < sz
  · rw [half_getD _ _ _ _ hq, ← Nat.add_assoc]
    rcases hm with hm | hm
    · exact hm
    · omega
  · rw [List.getD_eq_getElem?_getD, List.getElem?_eq_none (by rw [hl', h.hlen]; omega)]
    decide
/-- The other half is turned, which then doesn't count. -/
theorem Wk.other (h : Wk L sz st g rs q) (hl : L'.length = L.length) (ha : ∀ i, st ≤ i → i < st + sz → L'[i]? = L[i]?) (hm : L'.getD (sz - st + 8) 0 ≠ 1 ∨ half L' (sz - st) sz = half L (sz - st) sz) : Wk L' sz st g rs q := by
  have h3 := h.hst
  have h4 := h.len
  have hs := h.hsz
  have ho : half L' st sz = half L st sz := half_ext fun i hi => ha _ (by omega) (by omega)
  refine ⟨h.hst, h.hsz, by omega, by rw [ho]; exact h.gen, h.g1, ?_, by rw [ho]; exact h.ch, by rw [ho]; exact h.tail⟩
  rcases hm with hm | hm
  · have : genOf (half L' (sz - st) sz) = 0 := by
      unfold genOf
      rw [if_neg]
      rintro ⟨c, _⟩
      rw [half_getD _ _ _ _ (by omega)] at c
      exact hm c
    rw [this]
    exact h.g1
  · rw [hm]; exact h.oth
end
/-! Writes one behind the other. -/
abbrev Wr := Nat × List UInt8
/-- Wherever the writes are cut off, P holds of what is there; done to their end, Q. -/
def Torn (P Q : List UInt8 → Prop) : List UInt8 → List Wr → Prop
  | L, [] => Q L
  | L, (a, b) :: r => a + b.length ≤ L.length ∧ (∀ k, P (splice L a (b.take k))) ∧ Torn P Q (splice L a b) r
theorem Torn.mono {P Q P' Q' : List UInt8 → Prop} (hP : ∀ L, P L → P' L) (hQ : ∀ L, Q L → Q' L) : ∀ {ws : List Wr} {L : List UInt8}, Torn P Q L ws → Torn P' Q' L ws
  | [], _, h => hQ _ h
  | (_, _) :: _, _, h => ⟨h.1, fun k => hP _ (h.2.1 k), Torn.mono hP hQ h.2.2⟩
theorem Torn.append {P Q R : List UInt8 → Prop} : ∀ {ws vs : List Wr} {L : List UInt8}, Torn P R L ws → (∀ L', R L' → Torn P Q L' vs) → Torn P Q L (ws ++ vs)
  | [], _, _, h, k => k _ h
  | (_, _) :: _, _, _, h, k => ⟨h.1, h.2.1, Torn.append h.2.2 k⟩
/-- The writes done by a disk: the first error, and the disk behind them. -/
def perf (s : Dk) : List Wr → Int × Dk
  | [] => (0, s)
  | (a, b) :: r => if (s.write a b).1 ≠ 0 then s.write a b else perf (s.write a b).2 r
theorem write_up {s : Dk} {a : Nat} {b : List UInt8} (hd : s.down = false) (hab : a + b.length ≤ s.l.length) : s.write a b = if s.set && s.fw == 0 then (20, s.torn a b) else (0, s.done a b) := by
  unfold Dk.write
  rw [Dk.err_ok hd (by omega), Int.toNat_natCast]
  rfl
/-- How many writes the disk may have behind it. -/
structure Dk.okn (s : Dk) (n : Nat) : Prop where
  len : s.l.length ≤ 2000000
  fw0 : 0 ≤ s.fw
  fw1 : s.fw ≤ 9223372036854775807
  fb0 : 0 ≤ s.fb
  wr : s.wr ≤ n
theorem Dk.okn.ok {s : Dk} {n : Nat} (h : s.okn n) (hn : n ≤ 2000000) : s.ok := ⟨h.len, h.fw0, h.fw1, h.fb0, Nat.le_trans h.wr hn⟩
theorem Dk.okn.mono {s : Dk} {n m : Nat} (h : s.okn n) (hn : n ≤ m) : s.okn m := ⟨h.len, h.fw0, h.fw1, h.fb0, Nat.le_trans h.wr hn⟩
theorem okn_done {s : Dk} {n a : Nat} {b : List UInt8} (h : s.okn n) (hab : a + b.length ≤ s.l.length) (hf : s.set = true → s.fw ≠ 0) : (s.done a b).okn (n + 1) := by
  refine ⟨?_, ?_, ?_, h.fb0, ?_⟩
  · show (splice s.l a b).length ≤ _; rw [splice_length _ _ _ hab]; exact h.len
  · show 0 ≤ if s.set then s.fw - 1 else s.fw
    have := h.fw0
    split
    · rename_i hs; have := hf hs; omega
    · exact this
  · show (if s.set then s.fw - 1 else s.fw) ≤ _
    have := h.fw1
    split <;> omega
  · show s.wr + 1 ≤ _; have := h.wr; omega
theorem okn_torn {s : Dk} {n a : Nat} {b : List UInt8} (h : s.okn n) (hab : a + b.length ≤ s.l.length) : (s.torn a b).okn (n + 1) := by
  refine ⟨?_, h.fw0, h.fw1, h.fb0, ?_⟩
  · show (splice s.l a (b.take s.fb.toNat)).length ≤ _; rw [splice_length _ _ _ (by rw [List.length_take]; omega)]; exact h.len
  · show s.wr + 1 ≤ _; have := h.wr; omega
/-- Behind writes: all is done, the disk is up; or it is down, and the writes are cut off somewhere. -/
theorem perf_torn {P Q : List UInt8 → Prop} : ∀ (ws : List Wr) (s : Dk) (n : Nat), s.down = false → s.okn n → Torn P Q s.l ws →
    (perf s ws).2.okn (n + ws.length) ∧ (perf s ws).2.l.length = s.l.length ∧ (((perf s ws).1 = 0 ∧ (perf s ws).2.down = false ∧ Q (perf s ws).2.l ∧ (perf s ws).2.set = s.set) ∨ (s.set = true ∧ (perf s ws).1 = 20 ∧ (perf s ws).2.down = true ∧ P (perf s ws).2.l))
  | [], s, n, hd, ho, h => ⟨ho, rfl, .inl ⟨rfl, hd, h, rfl⟩⟩
  | (a, b) :: r, s, n, hd, ho, h => by
    obtain ⟨hab, hP, hr⟩ := h
    have hw := write_up hd hab
    unfold perf
    by_cases hs : (s.set && s.fw == 0) = true
    · rw [if_pos hs] at hw
      rw [hw, if_pos (by simp)]
      refine ⟨(okn_torn ho hab).mono (by simp), ?_, .inr ⟨by revert hs; cases s.set <;> simp, rfl, rfl, hP _⟩⟩
      show (splice s.l a (b.take s.fb.toNat)).length = _
      exact splice_length _ _ _ (by rw [List.length_take]; omega)
    · rw [if_neg hs] at hw
      have hf : s.set = true → s.fw ≠ 0 := fun h1 h2 => hs (by simp [h1, h2])
      rw [hw, if_neg (by simp)]
      have hlen : (s.done a b).l.length = s.l.length := splice_length _ _ _ hab
      obtain ⟨h1, h2, h3⟩ := perf_torn r (s.done a b) (n + 1) hd (okn_done ho hab hf) hr
      refine ⟨h1.mono (by simp; omega), by rw [h2]; exact hlen, ?_⟩
      exact h3
end Go.Proofs.Ytaoaegkfejlgkaa.Dsk
