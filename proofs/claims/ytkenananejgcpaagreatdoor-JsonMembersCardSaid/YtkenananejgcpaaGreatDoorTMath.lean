/-
  UTF-8, percent encoding and forms in mathematics: lists of bytes, no program.
-/
import Derived.Lib.DecodeN
namespace Go.Proofs.YtkenananejgcpaaGreatDoor.Txt
/-- Is the byte at a place from one to another? -/
def inn (l : List UInt8) (i lo hi : Nat) : Bool := decide (i < l.length) && (decide (lo ≤ (l.getD i 0).toNat) && decide ((l.getD i 0).toNat ≤ hi))
/-- How many bytes the character has that a list begins with; 0: there is none. -/
def chr (l : List UInt8) : Nat :=
  if (l.getD 0 0).toNat < 128 then 1
  else if (194 ≤ (l.getD 0 0).toNat ∧ (l.getD 0 0).toNat ≤ 223) ∧ inn l 1 128 191 = true then 2
  else if ((224 ≤ (l.getD 0 0).toNat ∧ (l.getD 0 0).toNat ≤ 239) ∧ inn l 1 (if (l.getD 0 0).toNat = 224 then 160 else 128) (if (l.getD 0 0).toNat = 237 then 159 else 191) = true) ∧ inn l 2 128 191 = true then 3
  else if (((240 ≤ (l.getD 0 0).toNat ∧ (l.getD 0 0).toNat ≤ 244) ∧ inn l 1 (if (l.getD 0 0).toNat = 240 then 144 else 128) (if (l.getD 0 0).toNat = 244 then 143 else 191) = true) ∧ inn l 2 128 191 = true) ∧ inn l 3 128 191 = true then 4
  else 0
theorem chr_le4 (l : List UInt8) : chr l ≤ 4 := by
  unfold chr
  repeat' split
  all_goals omega
theorem chr_len (l : List UInt8) (h : l ≠ []) : chr l ≤ l.length := by
  have : 0 < l.length := List.length_pos_iff.2 h
  unfold chr
  generalize (if (l.getD 0 0).toNat = 224 then 160 else 128) = p
  generalize (if (l.getD 0 0).toNat = 237 then 159 else 191) = q
  generalize (if (l.getD 0 0).toNat = 240 then 144 else 128) = r
  generalize (if (l.getD 0 0).toNat = 244 then 143 else 191) = s
  split
  · omega
  split
  · next h1 => have := h1.2; simp only [inn, Bool.and_eq_true, decide_eq_true_eq] at this; omega
  split
  · next h1 => have := h1.2; simp only [inn, Bool.and_eq_true, decide_eq_true_eq] at this; omega
  split
  · next h1 => have := h1.2; simp only [inn, Bool.and_eq_true, decide_eq_true_eq] at this; omega
  omega
/-- Where a list of bytes goes wrong that begins at a place; -1: nowhere. -/
def wrF : Nat → List UInt8 → Nat → Int
  | 0, _, _ => -1
  | n + 1, l, a => if l = [] then -1 else if chr l = 0 then a else wrF n (l.drop (chr l)) (a + chr l)
theorem wrF_eq : ∀ n m l a, l.length ≤ n → l.length ≤ m → wrF n l a = wrF m l a := by
  intro n
  induction n with
  | zero =>
    intro m l a hn _
    have : l = [] := List.eq_nil_of_length_eq_zero (by omega)
    subst this
    cases m <;> simp [wrF]
  | succ n ih =>
    intro m l a hn hm
    cases m with
    | zero =>
      have : l = [] := List.eq_nil_of_length_eq_zero (by omega)
      subst this
      simp [wrF]
    | succ m =>
      simp only [wrF]
      by_cases h0 : l = []
      · rw [if_pos h0, if_pos h0]
      · rw [if_neg h0, if_neg h0]
        by_cases h1 : chr l = 0
        · rw [if_pos h1, if_pos h1]
        · rw [if_neg h1, if_neg h1]
          exact ih m _ _ (by rw [List.length_drop]; omega) (by rw [List.length_drop]; omega)
def wrong (l : List UInt8) (a : Nat) : Int := wrF l.length l a
theorem wrong_nil (a : Nat) : wrong [] a = -1 := rfl
theorem wrong_bad {l : List UInt8} (a : Nat) (h : l ≠ []) (h0 : chr l = 0) : wrong l a = a := by
  unfold wrong
  obtain ⟨b, r, rfl⟩ := List.exists_cons_of_ne_nil h
  simp only [List.length_cons, wrF]
  rw [if_neg h, if_pos h0]
theorem wrong_step {l : List UInt8} (a : Nat) (h : l ≠ []) (h0 : chr l ≠ 0) : wrong l a = wrong (l.drop (chr l)) (a + chr l) := by
  unfold wrong
  have hl : 0 < l.length := List.length_pos_iff.2 h
  rw [wrF_eq l.length ((l.length - 1) + 1) l a (Nat.le_refl _) (by omega)]
  simp only [wrF]
  rw [if_neg h, if_neg h0]
  exact wrF_eq _ _ _ _ (by rw [List.length_drop]; omega) (by rw [List.length_drop]; omega)
theorem wrF_range : ∀ n l a, wrF n l a = -1 ∨ (a : Int) ≤ wrF n l a := by
  intro n
  induction n with
  | zero => intro l a; exact .inl rfl
  | succ n ih =>
    intro l a
    simp only [wrF]
    split
    · exact .inl rfl
    split
    · exact .inr (Int.le_refl _)
    · rcases ih (l.drop (chr l)) (a + chr l) with h | h
      · exact .inl h
      · exact .inr (by omega)
theorem wrong_range (l : List UInt8) (a : Nat) : wrong l a = -1 ∨ (a : Int) ≤ wrong l a := wrF_range _ _ _
theorem wrF_up : ∀ n l a, wrF n l a ≤ ((a + l.length : Nat) : Int) := by
  intro n
  induction n with
  | zero => intro l a; simp only [wrF]; omega
  | succ n ih =>
    intro l a
    simp only [wrF]
    split
    · omega
    split
    · omega
    · next h _ =>
      have h1 := ih (l.drop (chr l)) (a + chr l)
      have h2 := chr_len l h
      rw [List.length_drop] at h1
      omega
theorem wrong_up (l : List UInt8) : wrong l 0 ≤ (l.length : Int) := by have := wrF_up l.length l 0; unfold wrong; omega
/-! What Go's decoder says of a list. -/
def dec (l : List UInt8) : Nat × Nat := Lib.decodeN l.length (l.getD 0 0).toNat (l.getD 1 0).toNat (l.getD 2 0).toNat (l.getD 3 0).toNat
theorem byte_lt (l : List UInt8) (i : Nat) : (l.getD i 0).toNat < 256 := (l.getD i 0).toNat_lt
set_option maxHeartbeats 4000000 in
theorem dec_chr (l : List UInt8) : (chr l = 0 → dec l = (65533, 1)) ∧ (chr l ≠ 0 → (dec l).2 = chr l ∧ ((dec l).1 = 65533 → chr l = 3 ∧ (l.getD 0 0).toNat = 239 ∧ (l.getD 1 0).toNat = 191 ∧ (l.getD 2 0).toNat = 189)) := by
  have h0 := byte_lt l 0
  have h1 := byte_lt l 1
  have h2 := byte_lt l 2
  have h3 := byte_lt l 3
  unfold dec chr inn Lib.decodeN
  generalize l.length = n at *
  generalize (l.getD 0 0).toNat = b0 at *
  generalize (l.getD 1 0).toNat = b1 at *
  generalize (l.getD 2 0).toNat = b2 at *
  generalize (l.getD 3 0).toNat = b3 at *
  simp only [Bool.and_eq_true, decide_eq_true_eq]
  by_cases c1 : b0 < 128
  · simp only [c1, if_true]
    exact ⟨fun h => absurd h (by decide), fun _ => ⟨trivial, fun h => by omega⟩⟩
  simp only [c1, if_false]
  by_cases c2 : b0 / 32 = 6
  · have e3 : ¬ (224 ≤ b0) := by omega
    have e4 : ¬ (240 ≤ b0) := by omega
    have e5 : ¬ b0 / 16 = 14 := by omega
    have e6 : ¬ b0 / 8 = 30 := by omega
    simp only [c2, e3, e4, e5, e6, false_and, true_and, if_false]
    repeat' split
    all_goals first | (refine ⟨fun _ => rfl, fun h => absurd rfl h⟩) | (refine ⟨fun h => absurd h (by decide), fun _ => ⟨rfl, fun h => ?_⟩⟩; simp only at h; omega) | (exfalso; omega)
  by_cases c3 : b0 / 16 = 14
  · have e3 : ¬ (b0 ≤ 223) := by omega
    have e4 : ¬ (240 ≤ b0) := by omega
    have e5 : 224 ≤ b0 ∧ b0 ≤ 239 := by omega
    have e6 : ¬ b0 / 8 = 30 := by omega
    simp only [c2, c3, e3, e4, e5, e6, false_and, and_false, true_and, if_false]
    by_cases k1 : 1 < n
    · by_cases k2 : 2 < n
      · simp only [k1, k2, true_and]
        by_cases d1 : b1 / 64 = 2
        · by_cases d2 : b2 / 64 = 2
          · have d2' : 128 ≤ b2 ∧ b2 ≤ 191 := by omega
            simp only [d1, d2, d2', and_true, and_self, if_true]
            repeat' split
            all_goals first | (refine ⟨fun _ => rfl, fun h => absurd rfl h⟩) | (refine ⟨fun h => absurd h (by decide), fun _ => ⟨rfl, fun h => ?_⟩⟩; simp only at h; omega) | (exfalso; omega)
          · have d2' : ¬ (128 ≤ b2 ∧ b2 ≤ 191) := by omega
            simp only [d2, d2', and_false, if_false]
            simp
        · have d1' : ¬ ((if b0 = 224 then 160 else 128) ≤ b1 ∧ b1 ≤ if b0 = 237 then 159 else 191) := by split <;> split <;> omega
          simp only [d1, d1', false_and, if_false]
          simp
      · simp only [k2, false_and, and_false, if_false]
        simp
    · simp only [k1, false_and, if_false]
      simp
  by_cases c4 : b0 / 8 = 30
  · have e3 : ¬ (b0 ≤ 223) := by omega
    have e4 : ¬ (b0 ≤ 239) := by omega
    have e5 : 240 ≤ b0 := by omega
    simp only [c2, c3, c4, e3, e4, e5, false_and, and_false, true_and, if_false]
    by_cases k1 : 1 < n
    · by_cases k2 : 2 < n
      · by_cases k3 : 3 < n
        · simp only [k1, k2, k3, true_and]
          by_cases d1 : b1 / 64 = 2
          · by_cases d2 : b2 / 64 = 2
            · by_cases d3 : b3 / 64 = 2
              · have d2' : 128 ≤ b2 ∧ b2 ≤ 191 := by omega
                have d3' : 128 ≤ b3 ∧ b3 ≤ 191 := by omega
                simp only [d1, d2, d3, d2', d3', and_true, and_self, if_true]
                repeat' split
                all_goals first | (refine ⟨fun _ => rfl, fun h => absurd rfl h⟩) | (refine ⟨fun h => absurd h (by decide), fun _ => ⟨rfl, fun h => ?_⟩⟩; simp only at h; omega) | (exfalso; omega)
              · have d3' : ¬ (128 ≤ b3 ∧ b3 ≤ 191) := by omega
                simp only [d3, d3', and_false, if_false]
                simp
            · have d2' : ¬ (128 ≤ b2 ∧ b2 ≤ 191) := by omega
              simp only [d2, d2', false_and, and_false, if_false]
              simp
          · have d1' : ¬ ((if b0 = 240 then 144 else 128) ≤ b1 ∧ b1 ≤ if b0 = 244 then 143 else 191) := by split <;> split <;> omega
            simp only [d1, d1', false_and, and_false, if_false]
            simp
        · simp only [k3, false_and, and_false, if_false]
          simp
      · simp only [k2, false_and, and_false, if_false]
        simp
    · simp only [k1, false_and, and_false, if_false]
      simp
  have e3 : ¬ (194 ≤ b0 ∧ b0 ≤ 223) := by omega
  have e4 : ¬ (224 ≤ b0 ∧ b0 ≤ 239) := by omega
  have e5 : ¬ (240 ≤ b0 ∧ b0 ≤ 244) := by omega
  simp only [c2, c3, c4, e3, e4, e5, false_and, if_false]
  simp
theorem chr_fffd (l : List UInt8) (h : 3 ≤ l.length) (h0 : (l.getD 0 0).toNat = 239) (h1 : (l.getD 1 0).toNat = 191) (h2 : (l.getD 2 0).toNat = 189) : chr l = 3 := by
  unfold chr inn
  rw [h0, h1, h2]
  have a1 : decide (1 < l.length) = true := decide_eq_true (by omega)
  have a2 : decide (2 < l.length) = true := decide_eq_true (by omega)
  simp [a1, a2]
end Go.Proofs.YtkenananejgcpaaGreatDoor.Txt
