/-
  Numbers as texts, in mathematics: digits and their value, the texts that strconv writes and reads, and the document's reader of numbers beside the program's.
-/
import Derived.Test.YtkenananejgcpaaGreatDoorJNum
import Derived.Lib.ParseIntBCases
import Derived.Lib.ItoaMem
namespace Go.Proofs.YtkenananejgcpaaGreatDoor.Jsn
open Go.RowKit Txt
def isD (c : UInt8) : Bool := decide (48 ≤ c.toNat) && decide (c.toNat ≤ 57)
def valD (acc : Nat) (l : List UInt8) : Nat := l.foldl (fun a c => a * 10 + (c.toNat - 48)) acc
theorem valD_cons (acc : Nat) (c : UInt8) (l : List UInt8) : valD acc (c :: l) = valD (acc * 10 + (c.toNat - 48)) l := by
  unfold valD
  rw [List.foldl_cons]
theorem valD_snoc (acc : Nat) (c : UInt8) (l : List UInt8) : valD acc (l ++ [c]) = valD acc l * 10 + (c.toNat - 48) := by simp [valD]
theorem valD_ge (l : List UInt8) : ∀ acc, acc ≤ valD acc l := by
  induction l with
  | nil => intro acc; exact Nat.le_refl _
  | cons c l ih => intro acc; rw [valD_cons]; exact Nat.le_trans (by omega) (ih _)
theorem isD_iff (c : UInt8) : isD c = true ↔ (48 ≤ c.toNat ∧ c.toNat ≤ 57) := by simp [isD]
theorem parseM_ok (M : Nat) (l : List UInt8) : ∀ acc u, Lib.parseUintM M acc l = .ok u → l.all isD = true ∧ u = valD acc l := by
  induction l with
  | nil => intro acc u h; unfold Lib.parseUintM at h; injection h with h; exact ⟨rfl, h.symm⟩
  | cons c l ih =>
    intro acc u h
    unfold Lib.parseUintM at h
    split at h
    · rename_i hd
      split at h
      · cases h
      · split at h
        · cases h
        · obtain ⟨h1, h2⟩ := ih _ _ h
          exact ⟨by rw [List.all_cons, h1, (isD_iff c).2 hd]; rfl, h2⟩
    · cases h
theorem parseM_all (M : Nat) (hM : M ≤ 18446744073709551615) (l : List UInt8) : ∀ acc, l.all isD = true → valD acc l ≤ M → Lib.parseUintM M acc l = .ok (valD acc l) := by
  induction l with
  | nil => intro acc _ _; rfl
  | cons c l ih =>
    intro acc hd hv
    rw [List.all_cons, Bool.and_eq_true] at hd
    have hc := (isD_iff c).1 hd.1
    rw [valD_cons] at hv
    have := valD_ge l (acc * 10 + (c.toNat - 48))
    unfold Lib.parseUintM
    rw [if_pos hc, if_neg (by omega), if_neg (by omega)]
    exact ih _ hd.2 hv
/-! What strconv writes. -/
theorem dec_big {u : Nat} (h : ¬ u < 10) : Lib.decDigits u = Lib.decDigits (u / 10) ++ [UInt8.ofNat (48 + u % 10)] := by rw [Lib.decDigits, dif_neg h]
theorem ofD_toNat {k : Nat} (h : k < 10) : (UInt8.ofNat (48 + k)).toNat = 48 + k := by
  simp only [UInt8.toNat_ofNat']; omega
theorem dec_all : ∀ u, (Lib.decDigits u).all isD = true ∧ valD 0 (Lib.decDigits u) = u ∧ Lib.decDigits u ≠ [] ∧ (u ≠ 0 → (Lib.decDigits u).head? ≠ some 48) := by
  intro u
  induction u using Nat.strongRecOn with
  | _ u ih =>
    by_cases h : u < 10
    · rw [Lib.decDigits_one h]
      have e := ofD_toNat h
      refine ⟨by simp only [List.all_cons, List.all_nil, Bool.and_true]; rw [isD_iff]; omega, by rw [valD_cons]; show 0 * 10 + _ = _; omega, by simp, fun h0 hh => ?_⟩
      simp only [List.head?_cons, Option.some.injEq] at hh
      rw [hh] at e
      have : (48 : UInt8).toNat = 48 := rfl
      omega
    · obtain ⟨h1, h2, h3, h4⟩ := ih (u / 10) (by omega)
      have hm : u % 10 < 10 := by omega
      have e := ofD_toNat hm
      rw [dec_big h]
      refine ⟨?_, ?_, by simp, fun _ => ?_⟩
      · rw [List.all_append, h1]
        simp only [List.all_cons, List.all_nil, Bool.and_true, Bool.true_and]
        rw [isD_iff]; omega
      · rw [valD_snoc, h2]; omega
      · have := h4 (by omega)
        cases hd : Lib.decDigits (u / 10) with
        | nil => exact absurd hd h3
        | cons a r => rw [hd] at this; simpa using this
theorem val_pos {l : List UInt8} (hl : l ≠ []) (hd : l.all isD = true) (hh : l.head? ≠ some 48) : 1 ≤ valD 0 l := by
  cases l with
  | nil => exact absurd rfl hl
  | cons c l =>
    rw [List.all_cons, Bool.and_eq_true] at hd
    have hc := (isD_iff c).1 hd.1
    have hne : c ≠ 48 := fun e => hh (by rw [e]; rfl)
    have : c.toNat ≠ 48 := fun e => hne (UInt8.toNat_inj.1 e)
    rw [valD_cons]
    exact Nat.le_trans (by omega) (valD_ge l _)
/-- Digits without a nought ahead are what is written of their value. -/
theorem dec_val (n : Nat) : ∀ l : List UInt8, l.length = n → l ≠ [] → l.all isD = true → (l.head? ≠ some 48 ∨ l.length = 1) → Lib.decDigits (valD 0 l) = l := by
  induction n with
  | zero => intro l h1 h2; exact absurd (List.eq_nil_of_length_eq_zero h1) h2
  | succ n ih =>
    intro l hl hne hd hh
    obtain ⟨r, c, rfl⟩ : ∃ r c, l = r ++ [c] := ⟨l.dropLast, l.getLast hne, (List.dropLast_concat_getLast hne).symm⟩
    rw [List.all_append] at hd
    simp only [List.all_cons, List.all_nil, Bool.and_true, Bool.and_eq_true] at hd
    have hc := (isD_iff c).1 hd.2
    have hof : UInt8.ofNat (48 + (c.toNat - 48)) = c := by
      rw [show 48 + (c.toNat - 48) = c.toNat by omega]; simp
    rw [valD_snoc]
    by_cases hr : r = []
    · subst hr
      show Lib.decDigits (0 * 10 + (c.toNat - 48)) = _
      rw [Lib.decDigits_one (by omega), show 0 * 10 + (c.toNat - 48) = c.toNat - 48 by omega, hof]
      rfl
    · have hlen : (r ++ [c]).length ≠ 1 := by
        rw [List.length_append, List.length_singleton]
        have := List.length_pos_iff.2 hr
        omega
      have hh' : r.head? ≠ some 48 := by
        have h0 : (r ++ [c]).head? ≠ some 48 := hh.resolve_right hlen
        cases r with
        | nil => exact absurd rfl hr
        | cons a r => simpa using h0
      have hv := val_pos hr hd.1 hh'
      rw [dec_big (by omega), show (valD 0 r * 10 + (c.toNat - 48)) / 10 = valD 0 r by omega, show (valD 0 r * 10 + (c.toNat - 48)) % 10 = c.toNat - 48 by omega, hof]
      rw [ih r (by rw [List.length_append, List.length_singleton] at hl; omega) hr hd.1 (.inl hh')]
/-! The program's reader of numbers. -/
def full (st : Nat) (l : List UInt8) : Bool := (nend l st).2 && (nend l st).1 == l.length
theorem full_nil (st : Nat) : full st [] = mayEnd st := by simp [full, nend]
theorem full_cons (st : Nat) (b : UInt8) (l : List UInt8) : full st (b :: l) = if nxt st (b.toNat : Nat) = 9 then false else full (nxt st (b.toNat : Nat)) l := by
  unfold full
  rw [nend]
  split
  · simp
  · simp
theorem isNum_full (l : List UInt8) : isNum l = full 0 l := rfl
theorem nxt_dig {b : UInt8} (h : isD b = true) (st : Nat) (hs : st = 3 ∨ st = 5 ∨ st = 8) : nxt st (b.toNat : Nat) = st := by
  have := (isD_iff b).1 h
  rcases hs with rfl | rfl | rfl <;> unfold nxt ifd <;> simp <;> (repeat' split) <;> omega
/-- The digits at the head are passed over. -/
theorem full_skip (st : Nat) (hs : st = 3 ∨ st = 5 ∨ st = 8) (l : List UInt8) : full st l = full st (l.dropWhile isD) := by
  induction l with
  | nil => rfl
  | cons b l ih =>
    by_cases hb : isD b = true
    · rw [List.dropWhile_cons_of_pos hb, full_cons, nxt_dig hb st hs, if_neg (by rcases hs with rfl | rfl | rfl <;> decide), ih]
    · rw [List.dropWhile_cons_of_neg hb]
end Go.Proofs.YtkenananejgcpaaGreatDoor.Jsn
