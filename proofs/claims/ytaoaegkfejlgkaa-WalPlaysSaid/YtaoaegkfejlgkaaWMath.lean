/-
  The write-ahead log in mathematics: numbers in four bytes, a half's head, records, what is read of a half, and how writes change it. No program stands in it.
-/
import Derived.Test.YtaoaegkfejlgkaaC6
import Derived.Test.YtaoaegkfejlgkaaD4
namespace Go.Proofs.Ytaoaegkfejlgkaa.Dsk
open Go.RowKit
/-! Bytes as natural numbers. -/
def ns (l : List UInt8) : List Nat := l.map (·.toNat)
theorem ns_length (l : List UInt8) : (ns l).length = l.length := by simp [ns]
theorem ns_append (l m : List UInt8) : ns (l ++ m) = ns l ++ ns m := by simp [ns]
theorem ns_Bs (l : List UInt8) : Crc.Bs (ns l) := fun x hx => by
  simp only [ns, List.mem_map] at hx
  obtain ⟨y, _, rfl⟩ := hx
  exact y.toNat_lt
theorem ns_getD (l : List UInt8) (i : Nat) : (ns l).getD i 0 = (l.getD i 0).toNat := by
  simp only [ns, List.getD_eq_getElem?_getD, List.getElem?_map]
  cases l[i]? <;> simp
theorem vals_ns (l : List UInt8) : vals .u8 (ns l) = bc l := by simp [vals, ns, bc, Lib.byteCells]
theorem ns_inj {l m : List UInt8} (h : ns l = ns m) : l = m := by
  refine List.map_inj_right (f := fun x : UInt8 => x.toNat) ?_ |>.1 h
  intro x y e; exact UInt8.toNat_inj.1 e
def be4 (n : Nat) : List UInt8 := (put4 n).map UInt8.ofNat
theorem be4_length (n : Nat) : (be4 n).length = 4 := rfl
theorem ns_be4 {n : Nat} (h : n < 4294967296) : ns (be4 n) = put4 n := by
  have hb := put4_Bs h
  unfold ns be4
  rw [List.map_map]
  conv => rhs; rw [← List.map_id (put4 n)]
  refine List.map_congr_left fun x hx => ?_
  have := hb x hx
  simp only [Function.comp, UInt8.toNat_ofNat', id]
  omega
/-- The number in the first four bytes. -/
def num (l : List UInt8) : Nat := num4 (ns l)
theorem num_lt (l : List UInt8) : num l < 4294967296 := num4_lt (ns_Bs l)
theorem num4_take (l : List Nat) : num4 (l.take 4) = num4 l := by
  unfold num4
  simp [List.getD_eq_getElem?_getD]
theorem num_take (l : List UInt8) : num (l.take 4) = num l := by
  unfold num
  rw [← num4_take (ns l)]
  simp [ns, List.map_take]
theorem num_be4 {n : Nat} (h : n < 4294967296) (r : List UInt8) : num (be4 n ++ r) = n := by
  rw [← num_take, List.take_append_of_le_length (by rw [be4_length]; omega), List.take_of_length_le (by rw [be4_length]; omega)]
  unfold num
  rw [ns_be4 h, put4_num]
theorem be4_num {l : List UInt8} (h : l.length = 4) : be4 (num l) = l := by
  apply ns_inj
  rw [ns_be4 (num_lt l)]
  exact num4_put (ns_Bs l) (by rw [ns_length, h])
/-- The checksum. -/
def csum (l : List UInt8) : Nat := Crc.sum (ns l)
theorem csum_lt (l : List UInt8) : csum l < 4294967296 := Crc.sum_lt _
/-! Heads and records. -/
def headB (g : Nat) (m : UInt8) : List UInt8 := be4 g ++ (be4 (csum (be4 g)) ++ m :: List.replicate 7 0)
def rsum (g p : Nat) (x : List UInt8) : Nat := csum (be4 g ++ (be4 p ++ (be4 x.length ++ x)))
def recB (g p : Nat) (x : List UInt8) (m : UInt8) : List UInt8 := be4 x.length ++ (be4 (rsum g p x) ++ m :: x)
theorem headB_length (g : Nat) (m : UInt8) : (headB g m).length = 16 := by simp [headB, be4_length]
theorem recB_length (g p : Nat) (x : List UInt8) (m : UInt8) : (recB g p x m).length = 9 + x.length := by simp [recB, be4_length]; omega
def recsB (g : Nat) : Nat → List (List UInt8) → List UInt8
  | _, [] => []
  | p, x :: r => recB g p x 1 ++ recsB g (p + (9 + x.length)) r
theorem recsB_snoc (g : Nat) : ∀ (rs : List (List UInt8)) (p : Nat) (x : List UInt8), recsB g p (rs ++ [x]) = recsB g p rs ++ recB g (p + (recsB g p rs).length) x 1
  | [], p, x => by simp [recsB]
  | y :: r, p, x => by
    simp only [List.cons_append, recsB]
    rw [recsB_snoc g r, List.append_assoc, List.length_append, recB_length, Nat.add_assoc]
/-- The generation of a half; 0: it doesn't count. -/
def genOf (h : List UInt8) : Nat := if h.getD 8 0 = 1 ∧ num h ≤ 2147483647 ∧ num (h.drop 4) = csum (h.take 4) then num h else 0
theorem genOf_le (h : List UInt8) : genOf h ≤ 2147483647 := by
  unfold genOf
  split
  · rename_i hh; exact hh.2.1
  · omega
/-- The payload of the record at a place. -/
def payAt (h : List UInt8) (g p : Nat) : Option (List UInt8) :=
  let b := h.drop p
  if b.length < 9 ∨ num b < 1 ∨ 65536 < num b ∨ b.length < 9 + num b ∨ b.getD 8 0 ≠ 1 ∨ num (b.drop 4) ≠ rsum g p ((b.drop 9).take (num b)) then none
  else some ((b.drop 9).take (num b))
/-- The records from a place on, up to another. -/
def Ch (h : List UInt8) (g : Nat) : Nat → List (List UInt8) → Nat → Prop
  | p, [], q => q = p
  | p, x :: r, q => payAt h g p = some x ∧ Ch h g (p + (9 + x.length)) r q
theorem Ch.snoc {h : List UInt8} {g : Nat} : ∀ {rs : List (List UInt8)} {p q : Nat} {x : List UInt8}, Ch h g p rs q → payAt h g q = some x → Ch h g p (rs ++ [x]) (q + (9 + x.length))
  | [], p, q, x, h1, h2 => by simp only [Ch] at h1; subst h1; exact ⟨h2, rfl⟩
  | y :: r, p, q, x, h1, h2 => ⟨h1.1, Ch.snoc h1.2 h2⟩
theorem Ch.det {h : List UInt8} {g : Nat} : ∀ {rs rs' : List (List UInt8)} {p q q' : Nat}, Ch h g p rs q → payAt h g q = none → Ch h g p rs' q' → payAt h g q' = none → rs = rs' ∧ q = q'
  | [], [], p, q, q', h1, _, h3, _ => by simp only [Ch] at h1 h3; exact ⟨rfl, h1.trans h3.symm⟩
  | [], y :: r, p, q, q', h1, h2, h3, _ => by simp only [Ch] at h1; subst h1; rw [h3.1] at h2; cases h2
  | y :: r, [], p, q, q', h1, _, h3, h4 => by simp only [Ch] at h3; subst h3; rw [h1.1] at h4; cases h4
  | y :: r, z :: t, p, q, q', h1, h2, h3, h4 => by
    have e := h1.1.symm.trans h3.1
    injection e with e
    subst e
    obtain ⟨e1, e2⟩ := Ch.det h1.2 h2 h3.2 h4
    exact ⟨by rw [e1], e2⟩
theorem Ch.le {h : List UInt8} {g : Nat} : ∀ {rs : List (List UInt8)} {p q : Nat}, Ch h g p rs q → p ≤ q
  | [], p, q, h1 => by simp only [Ch] at h1; omega
  | y :: r, p, q, h1 => by have := Ch.le h1.2; omega
theorem payAt_some {h : List UInt8} {g p : Nat} {x : List UInt8} (e : payAt h g p = some x) : 1 ≤ x.length ∧ x.length ≤ 65536 ∧ p + (9 + x.length) ≤ h.length ∧ x = ((h.drop p).drop 9).take (num (h.drop p)) ∧ x.length = num (h.drop p) ∧ (h.drop p).getD 8 0 = 1 ∧ num ((h.drop p).drop 4) = rsum g p x := by
  unfold payAt at e
  simp only at e
  split at e
  · cases e
  · rename_i hc
    injection e with e
    have hl : x.length = num (h.drop p) := by rw [← e, List.length_take, List.length_drop]; omega
    have hd : (h.drop p).length = h.length - p := List.length_drop
    refine ⟨by omega, by omega, by omega, e.symm, hl, ?_, ?_⟩
    · exact Classical.not_not.1 fun hh => hc (.inr (.inr (.inr (.inr (.inl hh)))))
    · rw [← e]; exact Classical.not_not.1 fun hh => hc (.inr (.inr (.inr (.inr (.inr hh)))))
theorem payAt_none_of_mark {h : List UInt8} {g p : Nat} (e : h.getD (p + 8) 0 ≠ 1) : payAt h g p = none := by
  unfold payAt
  simp only
  rw [if_pos]
  refine .inr (.inr (.inr (.inr (.inl ?_))))
  rw [List.getD_eq_getElem?_getD, List.getElem?_drop, ← List.getD_eq_getElem?_getD]
  exact e
theorem Ch.end_le {h : List UInt8} {g : Nat} : ∀ {rs : List (List UInt8)} {p q : Nat}, Ch h g p rs q → p ≤ h.length → q ≤ h.length
  | [], p, q, h1, h2 => by simp only [Ch] at h1; omega
  | y :: r, p, q, h1, _ => Ch.end_le h1.2 (payAt_some h1.1).2.2.1
theorem Ch.sizes {h : List UInt8} {g : Nat} : ∀ {rs : List (List UInt8)} {p q : Nat}, Ch h g p rs q → ∀ x ∈ rs, 1 ≤ x.length ∧ x.length ≤ 65536
  | [], _, _, _ => fun x hx => by cases hx
  | y :: r, p, q, h1 => fun x hx => by
    rcases List.mem_cons.1 hx with rfl | hx
    · have := payAt_some h1.1; exact ⟨this.1, this.2.1⟩
    · exact Ch.sizes h1.2 x hx
/-! What is read hangs on the bytes that are read alone. -/
theorem drop_agree {h h' : List UInt8} {n p k : Nat} (ht : h'.take n = h.take n) (hk : p + k ≤ n) : (h'.drop p).take k = (h.drop p).take k := by
  have e := congrArg (fun l => (l.drop p).take k) ht
  simp only [List.drop_take, List.take_take] at e
  rwa [Nat.min_eq_left (by omega)] at e
theorem num_agree {b b' : List UInt8} (h : b'.take 4 = b.take 4) : num b' = num b := by rw [← num_take b', h, num_take]
theorem getD_agree {b b' : List UInt8} {n i : Nat} (h : b'.take n = b.take n) (hi : i < n) : b'.getD i 0 = b.getD i 0 := by
  have e := congrArg (fun l => l.getD i 0) h
  simpa [List.getD_eq_getElem?_getD, List.getElem?_take, hi] using e
theorem payAt_agree {h h' : List UInt8} {g p n : Nat} {x : List UInt8} (e : payAt h g p = some x) (hl : h'.length = h.length) (ht : h'.take n = h.take n) (hn : p + (9 + x.length) ≤ n) : payAt h' g p = some x := by
  obtain ⟨h1, h2, h3, h4, h5, h6, h7⟩ := payAt_some e
  have a4 : (h'.drop p).take 9 = (h.drop p).take 9 := drop_agree ht (by omega)
  have a0 : num (h'.drop p) = num (h.drop p) := num_agree (drop_agree ht (by omega))
  have a1 : num ((h'.drop p).drop 4) = num ((h.drop p).drop 4) := num_agree (by rw [List.drop_drop, List.drop_drop]; exact drop_agree ht (by omega))
  have a2 : ((h'.drop p).drop 9).take (num (h.drop p)) = x := by rw [h4, List.drop_drop, List.drop_drop]; exact drop_agree ht (by omega)
  have hd : (h'.drop p).length = h'.length - p := List.length_drop
  unfold payAt
  simp only
  rw [a0, a1, a2, if_neg]
  rintro (c | c | c | c | c | c)
  · omega
  · omega
  · omega
  · omega
  · rw [getD_agree a4 (by omega)] at c; exact c h6
  · exact c h7
theorem Ch.agree {h h' : List UInt8} {g n : Nat} (hl : h'.length = h.length) (ht : h'.take n = h.take n) : ∀ {rs : List (List UInt8)} {p q : Nat}, Ch h g p rs q → q ≤ n → Ch h' g p rs q
  | [], p, q, h1, _ => h1
  | y :: r, p, q, h1, hq => ⟨payAt_agree h1.1 hl ht (by have := Ch.le h1.2; omega), Ch.agree hl ht h1.2 hq⟩
theorem genOf_agree {h h' : List UInt8} {n : Nat} (ht : h'.take n = h.take n) (hn : 9 ≤ n) : genOf h' = genOf h := by
  have a0 : num h' = num h := num_agree (by have := drop_agree (p := 0) (k := 4) ht (by omega); simpa using this)
  have a1 : num (h'.drop 4) = num (h.drop 4) := num_agree (drop_agree ht (by omega))
  have a2 : h'.take 4 = h.take 4 := by have := drop_agree (p := 0) (k := 4) ht (by omega); simpa using this
  unfold genOf
  rw [a0, a1, a2, getD_agree ht (by omega)]
/-! A record that stands there is read. -/
theorem payAt_at {h : List UInt8} {g p : Nat} {x r : List UInt8} (hd : h.drop p = recB g p x 1 ++ r) (hx : 1 ≤ x.length) (hx' : x.length ≤ 65536) : payAt h g p = some x := by
  have hb : h.drop p = be4 x.length ++ (be4 (rsum g p x) ++ 1 :: (x ++ r)) := by rw [hd, recB]; simp
  have n0 : num (h.drop p) = x.length := by rw [hb, num_be4 (by omega)]
  have hl : (h.drop p).length = 9 + x.length + r.length := by rw [hd, List.length_append, recB_length]
  have d4 : (h.drop p).drop 4 = be4 (rsum g p x) ++ 1 :: (x ++ r) := by rw [hb]; exact List.drop_left' rfl
  have n4 : num ((h.drop p).drop 4) = rsum g p x := by rw [d4, num_be4 (show rsum g p x < 4294967296 from csum_lt _)]
  have d8 : (h.drop p).drop 8 = 1 :: (x ++ r) := by rw [show (8 : Nat) = 4 + 4 from rfl, ← List.drop_drop, d4]; exact List.drop_left' rfl
  have g8 : (h.drop p).getD 8 0 = 1 := by
    have := congrArg (fun l => l.getD 0 0) d8
    simpa [List.getD_eq_getElem?_getD, List.getElem?_drop] using this
  have d9 : (h.drop p).drop 9 = x ++ r := by
    rw [show (9 : Nat) = 8 + 1 from rfl, ← List.drop_drop, d8]; rfl
  have t9 : ((h.drop p).drop 9).take x.length = x := by rw [d9]; exact List.take_left' rfl
  unfold payAt
  simp only
  rw [n0, t9, if_neg]
  rintro (c | c | c | c | c | c)
  · omega
  · omega
  · omega
  · omega
  · exact c g8
  · exact c n4
theorem Ch_recs {h : List UInt8} {g : Nat} : ∀ (rs : List (List UInt8)) (p : Nat) (r : List UInt8), h.drop p = recsB g p rs ++ r → (∀ x ∈ rs, 1 ≤ x.length ∧ x.length ≤ 65536) → Ch h g p rs (p + (recsB g p rs).length)
  | [], p, r, _, _ => by simp [recsB, Ch]
  | x :: rs, p, r, hd, hs => by
    simp only [recsB, List.append_assoc] at hd
    have h1 := hs x (by simp)
    simp only [recsB, List.length_append, recB_length]
    refine ⟨payAt_at hd h1.1 h1.2, ?_⟩
    have hd2 : h.drop (p + (9 + x.length)) = recsB g (p + (9 + x.length)) rs ++ r := by
      rw [← List.drop_drop, hd]
      exact List.drop_left' (by rw [recB_length])
    have := Ch_recs rs (p + (9 + x.length)) r hd2 (fun y hy => hs y (by simp [hy]))
    rw [show p + (9 + x.length + (recsB g (p + (9 + x.length)) rs).length) = p + (9 + x.length) + (recsB g (p + (9 + x.length)) rs).length by omega]
    exact this
theorem genOf_head {h : List UInt8} {g : Nat} {r : List UInt8} (hh : h = headB g 1 ++ r) (hg : g ≤ 2147483647) : genOf h = g := by
  have hb : h = be4 g ++ (be4 (csum (be4 g)) ++ 1 :: (List.replicate 7 0 ++ r)) := by rw [hh, headB]; simp
  have n0 : num h = g := by rw [hb, num_be4 (by omega)]
  have d4 : h.drop 4 = be4 (csum (be4 g)) ++ 1 :: (List.replicate 7 0 ++ r) := by rw [hb]; exact List.drop_left' rfl
  have n4 : num (h.drop 4) = csum (be4 g) := by rw [d4, num_be4 (csum_lt _)]
  have d8 : h.drop 8 = 1 :: (List.replicate 7 0 ++ r) := by rw [show (8 : Nat) = 4 + 4 from rfl, ← List.drop_drop, d4]; exact List.drop_left' rfl
  have g8 : h.getD 8 0 = 1 := by
    have := congrArg (fun l => l.getD 0 0) d8
    simpa [List.getD_eq_getElem?_getD, List.getElem?_drop] using this
  have t4 : h.take 4 = be4 g := by rw [hb]; exact List.take_left' rfl
  unfold genOf
  rw [n0, n4, t4, if_pos ⟨g8, hg, rfl⟩]
end Go.Proofs.Ytaoaegkfejlgkaa.Dsk
