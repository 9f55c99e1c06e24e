/-
  The document's own reader of numbers: Number reads all of a text, without a fault, just if the program takes it for a number.
-/
import Derived.Test.YtbpppjokdmmgnaaGreatDoorJNm2
namespace Go.Proofs.YtbpppjokdmmgnaaGreatDoor.Jsn
open Go.RowKit Txt
/-- Digits, one at least, and then F. -/
def Dg (F : List UInt8 → Bool) : List UInt8 → Bool
  | [] => false
  | d :: r => if isD d then F (r.dropWhile isD) else false
def F3 : List UInt8 → Bool
  | [] => true
  | c :: r => if c.toNat = 101 ∨ c.toNat = 69 then full 6 r else false
def F3b : List UInt8 → Bool
  | [] => true
  | c :: r => if c.toNat = 69 then full 6 r else false
def F4 : List UInt8 → Bool
  | [] => true
  | _ :: _ => false
def F6b : List UInt8 → Bool
  | [] => false
  | c :: r => if c.toNat = 45 then Dg F4 r else Dg F4 (c :: r)
theorem Dg_cons (F : List UInt8 → Bool) (d : UInt8) (r : List UInt8) : Dg F (d :: r) = if isD d then F (r.dropWhile isD) else false := rfl
theorem F6b_cons (c : UInt8) (r : List UInt8) : F6b (c :: r) = if c.toNat = 45 then Dg F4 r else Dg F4 (c :: r) := rfl
theorem F3_cons (c : UInt8) (r : List UInt8) : F3 (c :: r) = if c.toNat = 101 ∨ c.toNat = 69 then full 6 r else false := rfl
/-- The reader at a place, with a fault or not: what is left decides. -/
structure Inv (F : List UInt8 → Bool) (s : List UInt8) (i : Nat) (f : Int) : Prop where
  le : i ≤ s.length
  ok : f = 0 → isNum s = F (s.drop i)
  bad : f ≠ 0 → isNum s = false
def hd (l : List UInt8) (c : Nat) : Prop := ∃ x r, l = x :: r ∧ x.toNat = c
theorem drop_cons {s : List UInt8} {i : Nat} (h : i < s.length) : s.drop i = s.getD i 0 :: s.drop (i + 1) := by
  rw [List.getD_eq_getElem?_getD, List.getElem?_eq_getElem h, Option.getD_some]
  exact List.drop_eq_getElem_cons h
theorem Inv.yes {F F' : List UInt8 → Bool} {s : List UInt8} {i : Nat} {f : Int} {c : Nat} (h : Inv F s i f) (hb : isB s i f c = true) (hF : ∀ (x : UInt8) r, x.toNat = c → F (x :: r) = F' r) : Inv F' s (i + 1) f := by
  unfold isB at hb
  simp only [Bool.and_eq_true, beq_iff_eq, decide_eq_true_eq] at hb
  obtain ⟨⟨rfl, hlt⟩, hc⟩ := hb
  refine ⟨hlt, fun _ => ?_, fun h => absurd rfl h⟩
  rw [h.ok rfl, drop_cons hlt, hF _ _ hc]
theorem Inv.no {F F' : List UInt8 → Bool} {s : List UInt8} {i : Nat} {f : Int} {c : Nat} (h : Inv F s i f) (hb : isB s i f c = false) (hF : ∀ l, ¬ hd l c → F l = F' l) : Inv F' s i f := by
  refine ⟨h.le, fun h0 => ?_, h.bad⟩
  rw [h.ok h0]
  refine hF _ ?_
  rintro ⟨x, r, hx, hc⟩
  have hlt : i < s.length := by
    by_cases hlt : i < s.length
    · exact hlt
    · rw [List.drop_eq_nil_of_le (by omega)] at hx; cases hx
  rw [drop_cons hlt] at hx
  injection hx with hx _
  have : isB s i f c = true := by
    unfold isB
    simp only [Bool.and_eq_true, beq_iff_eq, decide_eq_true_eq]
    exact ⟨⟨h0, hlt⟩, by rw [hx]; exact hc⟩
  rw [this] at hb
  cases hb
theorem Inv.either {F F' : List UInt8 → Bool} {s : List UInt8} {i : Nat} {f : Int} {c : Nat} (h : Inv F s i f) (hy : ∀ (x : UInt8) r, x.toNat = c → F (x :: r) = F' r) (hn : ∀ l, ¬ hd l c → F l = F' l) : Inv F' s (if isB s i f c then i + 1 else i) f := by
  cases hb : isB s i f c with
  | true => exact h.yes hb hy
  | false => exact h.no hb hn
theorem dropW_at (s : List UInt8) (j : Nat) : ∀ n i, j = i + n → j ≤ s.length → (∀ k, i ≤ k → k < j → isD (s.getD k 0) = true) → digB s j 0 = false → (s.drop i).dropWhile isD = s.drop j := by
  intro n
  induction n with
  | zero =>
    intro i hj hl _ hd
    obtain rfl : j = i := by omega
    by_cases hlt : j < s.length
    · rw [drop_cons hlt]
      have : isD (s.getD j 0) = false := by
        cases hx : isD (s.getD j 0) with
        | false => rfl
        | true => rw [digB_on.2 ⟨hlt, hx⟩] at hd; cases hd
      rw [List.dropWhile_cons_of_neg (by rw [this]; simp)]
    · rw [List.drop_eq_nil_of_le (by omega)]; rfl
  | succ n ih =>
    intro i hj hl h hd
    rw [drop_cons (by omega), List.dropWhile_cons_of_pos (h i (Nat.le_refl _) (by omega))]
    exact ih (i + 1) (by omega) hl (fun k h1 h2 => h k (by omega) h2) hd
def DigI (F : List UInt8 → Bool) (pb : Nat) (s : List UInt8) (w : World) (e' : Ending) (w' : World) : Prop := e' = .returned (.tuple #[]) ∧ ∃ (j : Nat) (f a : Int), Inv F s j f ∧ RP w' pb s j f a ∧ G pb w w'
/-- digits, where digits must come. -/
theorem digits_inv (F : List UInt8 → Bool) (pb : Nat) (s : List UInt8) (i : Nat) (f a : Int) (w : World) (h : RP w pb s i f a) (hl : s.length ≤ 100000) (hi : Inv (Dg F) s i f) :
    Calls Tryz.prog 26 #[.pointer (some ⟨pb, 0, none⟩)] w (DigI F pb s w) := by
  by_cases hd : digB s i f = true
  · have hf : f = 0 := by
      by_cases hf : f = 0
      · exact hf
      · rw [digB_off hf] at hd; cases hd
    subst hf
    obtain ⟨hlt, hdd⟩ := digB_on.1 hd
    refine (digits_on pb s i a w h hi.le hl hd).mono ?_
    rintro e w' ⟨rfl, j, b, ⟨h1, h2, h3, h4⟩, hp, hg⟩
    refine ⟨rfl, j, 0, b, ⟨h2, fun _ => ?_, fun h => absurd rfl h⟩, hp, hg⟩
    have hij : i + 1 ≤ j := by
      by_cases hij : i = j
      · subst hij; rw [hd] at h4; cases h4
      · omega
    rw [hi.ok rfl, drop_cons hlt, Dg_cons, if_pos hdd]
    rw [dropW_at s j (j - (i + 1)) (i + 1) (by omega) h2 (fun k k1 k2 => h3 k (by omega) k2) h4]
  · have hd : digB s i f = false := by simpa using hd
    refine (digits_off pb s i f a w h hi.le hd).mono ?_
    rintro e w' ⟨rfl, ⟨g, b, hg0, hp⟩, hg⟩
    refine ⟨rfl, i, g, b, ⟨hi.le, fun h => absurd h hg0, fun _ => ?_⟩, hp, hg⟩
    by_cases hf : f = 0
    · subst hf
      rw [hi.ok rfl]
      by_cases hlt : i < s.length
      · rw [drop_cons hlt, Dg_cons]
        have : isD (s.getD i 0) = false := by
          cases hx : isD (s.getD i 0) with
          | false => rfl
          | true => rw [digB_on.2 ⟨hlt, hx⟩] at hd; cases hd
        rw [this]; rfl
      · rw [List.drop_eq_nil_of_le (by omega)]; rfl
    · exact hi.bad hf
/-! The stages. -/
theorem full_one (st : Nat) (x : UInt8) (r : List UInt8) (t : Nat) (h : nxt st (x.toNat : Nat) = t) (ht : t ≠ 9) : full st (x :: r) = full t r := by
  rw [full_cons, h, if_neg ht]
theorem full_none (st : Nat) (x : UInt8) (r : List UInt8) (h : nxt st (x.toNat : Nat) = 9) : full st (x :: r) = false := by
  rw [full_cons, h, if_pos rfl]
theorem nhd {x : UInt8} {r : List UInt8} {c : Nat} (h : ¬ hd (x :: r) c) : x.toNat ≠ c := fun e => h ⟨x, r, rfl, e⟩
theorem s1y (x : UInt8) (r : List UInt8) (h : x.toNat = 45) : full 0 (x :: r) = full 1 r := full_one _ _ _ _ (by rw [h]; decide) (by decide)
theorem s1n (l : List UInt8) (h : ¬ hd l 45) : full 0 l = full 1 l := by
  cases l with
  | nil => rfl
  | cons x r => rw [full_cons, full_cons, nxt_start (.inl rfl) x (nhd h), nxt_start (.inr rfl) x (nhd h)]
theorem s2y (x : UInt8) (r : List UInt8) (h : x.toNat = 48) : full 1 (x :: r) = full 2 r := full_one _ _ _ _ (by rw [h]; decide) (by decide)
/-- Behind digits 2 and 3 are the same. -/
theorem full32 (l : List UInt8) (h : ∀ x r, l = x :: r → isD x = false) : full 3 l = full 2 l := by
  cases l with
  | nil => rfl
  | cons x r =>
    have hx := notD (h x r rfl)
    rw [full_cons, full_cons]
    have : nxt 3 (x.toNat : Nat) = nxt 2 (x.toNat : Nat) := by
      unfold nxt ifd
      simp
      (repeat' split) <;> omega
    rw [this]
theorem s2n (l : List UInt8) (h : ¬ hd l 48) : full 1 l = Dg (full 2) l := by
  cases l with
  | nil => rfl
  | cons x r =>
    rw [Dg_cons]
    by_cases hx : isD x = true
    · rw [if_pos hx]
      have h45 : x.toNat ≠ 45 := by have := (isD_iff x).1 hx; omega
      rw [full_one 1 x r 3 (by rw [nxt_start (.inr rfl) x h45, if_neg (nhd h), if_pos hx]) (by decide), full_skip 3 (.inl rfl)]
      exact full32 _ (fun y q e => drop_head e)
    · rw [if_neg hx]
      have hx' := notD (by simpa using hx : isD x = false)
      exact full_none _ _ _ (by unfold nxt ifd; simp; (repeat' split) <;> omega)
theorem s3y (x : UInt8) (r : List UInt8) (h : x.toNat = 46) : full 2 (x :: r) = Dg F3 r := by
  rw [full_one 2 x r 4 (by rw [h]; decide) (by decide)]
  cases r with
  | nil => rfl
  | cons d q =>
    rw [Dg_cons]
    by_cases hd : isD d = true
    · rw [if_pos hd, full_one 4 d q 5 (by have := (isD_iff d).1 hd; unfold nxt ifd; simp; omega) (by decide), full_skip 5 (.inr (.inl rfl))]
      cases hq : q.dropWhile isD with
      | nil => rfl
      | cons y z =>
        have hy := notD (drop_head hq)
        rw [F3_cons]
        by_cases he : y.toNat = 101 ∨ y.toNat = 69
        · rw [if_pos he]
          exact full_one _ _ _ _ (by unfold nxt ifd; simp; (repeat' split) <;> omega) (by decide)
        · rw [if_neg he]
          exact full_none _ _ _ (by unfold nxt ifd; simp; (repeat' split) <;> omega)
    · rw [if_neg hd]
      have hx' := notD (by simpa using hd : isD d = false)
      exact full_none _ _ _ (by unfold nxt ifd; simp; omega)
theorem s3n (l : List UInt8) (h : ¬ hd l 46) : full 2 l = F3 l := by
  cases l with
  | nil => rfl
  | cons y z =>
    have := nhd h
    rw [F3_cons]
    by_cases he : y.toNat = 101 ∨ y.toNat = 69
    · rw [if_pos he]
      exact full_one _ _ _ _ (by unfold nxt ifd; simp; (repeat' split) <;> omega) (by decide)
    · rw [if_neg he]
      exact full_none _ _ _ (by unfold nxt ifd; simp; (repeat' split) <;> omega)
theorem s4y (x : UInt8) (r : List UInt8) (h : x.toNat = 101) : F3 (x :: r) = full 6 r := by unfold F3; simp [h]
theorem s4n (l : List UInt8) (h : ¬ hd l 101) : F3 l = F3b l := by
  cases l with
  | nil => rfl
  | cons y z => have := nhd h; unfold F3 F3b; simp [this]
theorem s5y (x : UInt8) (r : List UInt8) (h : x.toNat = 69) : F3b (x :: r) = full 6 r := by unfold F3b; simp [h]
theorem s5n (l : List UInt8) (h : ¬ hd l 69) : F3b l = F4 l := by
  cases l with
  | nil => rfl
  | cons y z => have := nhd h; unfold F3b F4; simp [this]
theorem full8 (l : List UInt8) : full 8 l = F4 (l.dropWhile isD) := by
  rw [full_skip 8 (.inr (.inr rfl))]
  cases hq : l.dropWhile isD with
  | nil => rfl
  | cons y z =>
    have hy := notD (drop_head hq)
    exact full_none _ _ _ (by unfold nxt ifd; simp; omega)
theorem full7 (l : List UInt8) : full 7 l = Dg F4 l := by
  cases l with
  | nil => rfl
  | cons d q =>
    rw [Dg_cons]
    by_cases hd : isD d = true
    · rw [if_pos hd, full_one 7 d q 8 (by have := (isD_iff d).1 hd; unfold nxt ifd; simp; omega) (by decide), full8]
    · rw [if_neg hd]
      have hx' := notD (by simpa using hd : isD d = false)
      exact full_none _ _ _ (by unfold nxt ifd; simp; omega)
theorem full6 (l : List UInt8) (h1 : ¬ hd l 43) (h2 : ¬ hd l 45) : full 6 l = Dg F4 l := by
  cases l with
  | nil => rfl
  | cons d q =>
    have n1 := nhd h1
    have n2 := nhd h2
    rw [Dg_cons]
    by_cases hd : isD d = true
    · rw [if_pos hd, full_one 6 d q 8 (by have := (isD_iff d).1 hd; unfold nxt ifd; simp; (repeat' split) <;> omega) (by decide), full8]
    · rw [if_neg hd]
      have hx' := notD (by simpa using hd : isD d = false)
      exact full_none _ _ _ (by unfold nxt ifd; simp; (repeat' split) <;> omega)
theorem s6y (x : UInt8) (r : List UInt8) (h : x.toNat = 43) : full 6 (x :: r) = Dg F4 r := by
  rw [full_one 6 x r 7 (by rw [h]; decide) (by decide), full7]
theorem s6n (l : List UInt8) (h : ¬ hd l 43) : full 6 l = F6b l := by
  cases l with
  | nil => rfl
  | cons x r =>
    rw [F6b_cons]
    by_cases hx : x.toNat = 45
    · rw [if_pos hx, full_one 6 x r 7 (by rw [hx]; decide) (by decide), full7]
    · rw [if_neg hx]
      exact full6 _ h (fun ⟨y, q, e, hy⟩ => hx (by injection e with e _; rw [e]; exact hy))
theorem s7y (x : UInt8) (r : List UInt8) (h : x.toNat = 45) : F6b (x :: r) = Dg F4 r := by unfold F6b; simp [h]
theorem s7n (l : List UInt8) (h : ¬ hd l 45) : F6b l = Dg F4 l := by
  cases l with
  | nil => rfl
  | cons y z => have := nhd h; unfold F6b; simp [this]
theorem Inv.last {s : List UInt8} {i : Nat} {f : Int} (h : Inv F4 s i f) : (f = 0 ∧ i = s.length) ↔ isNum s = true := by
  constructor
  · rintro ⟨h0, rfl⟩
    rw [h.ok h0, List.drop_length]
    rfl
  · intro hn
    by_cases h0 : f = 0
    · refine ⟨h0, ?_⟩
      rw [h.ok h0] at hn
      have := h.le
      by_cases hlt : i < s.length
      · rw [drop_cons hlt] at hn; cases hn
      · omega
    · rw [h.bad h0] at hn; cases hn
end Go.Proofs.YtbpppjokdmmgnaaGreatDoor.Jsn
