/-
  Percent encoding and forms in mathematics, part two.
-/
import Derived.Test.YtkenananejgcpaaGreatDoorTMath
namespace Go.Proofs.YtkenananejgcpaaGreatDoor.Txt
/-- Bytes that stand for themselves. -/
def plain (b : UInt8) : Bool := (decide (65 ≤ b.toNat) && decide (b.toNat ≤ 90)) || (decide (97 ≤ b.toNat) && decide (b.toNat ≤ 122)) || (decide (48 ≤ b.toNat) && decide (b.toNat ≤ 57)) || decide (b.toNat = 45) || decide (b.toNat = 46) || decide (b.toNat = 95) || decide (b.toNat = 42)
def hexs : List UInt8 := [48, 49, 50, 51, 52, 53, 54, 55, 56, 57, 65, 66, 67, 68, 69, 70]
def hx (n : Nat) : UInt8 := hexs.getD n 0
def esc1 (b : UInt8) : List UInt8 := if plain b = true then [b] else if b.toNat = 32 then [43] else [37, hx (b.toNat / 16), hx (b.toNat % 16)]
def esc (l : List UInt8) : List UInt8 := l.flatMap esc1
theorem esc_nil : esc [] = [] := rfl
theorem esc_cons (b : UInt8) (l : List UInt8) : esc (b :: l) = esc1 b ++ esc l := rfl
theorem esc_append (l m : List UInt8) : esc (l ++ m) = esc l ++ esc m := by simp [esc]
theorem esc1_len (b : UInt8) : (esc1 b).length ≤ 3 := by
  unfold esc1
  repeat' split
  all_goals simp
theorem esc_len (l : List UInt8) : (esc l).length ≤ 3 * l.length := by
  induction l with
  | nil => simp [esc]
  | cons b l ih =>
    rw [esc_cons, List.length_append, List.length_cons]
    have := esc1_len b
    omega
/-- The value of a hexadecimal digit; -1: it is none. -/
def hv (b : UInt8) : Int := if 48 ≤ b.toNat ∧ b.toNat ≤ 57 then (b.toNat : Int) - 48 else if 65 ≤ b.toNat ∧ b.toNat ≤ 70 then (b.toNat : Int) - 55 else if 97 ≤ b.toNat ∧ b.toNat ≤ 102 then (b.toNat : Int) - 87 else -1
theorem hv_range (b : UInt8) : hv b = -1 ∨ (0 ≤ hv b ∧ hv b ≤ 15) := by
  unfold hv
  repeat' split
  all_goals omega
/-- What a list that is not empty begins with, unescaped, and how many bytes that took; none: it may not be. -/
def un1 (l : List UInt8) : Option (UInt8 × Nat) :=
  if (l.getD 0 0).toNat = 43 then some (32, 1)
  else if (l.getD 0 0).toNat = 37 then (if l.length < 3 then none else if hv (l.getD 1 0) < 0 ∨ hv (l.getD 2 0) < 0 then none else some (UInt8.ofNat (16 * hv (l.getD 1 0) + hv (l.getD 2 0)).toNat, 3))
  else if (l.getD 0 0).toNat < 33 ∨ (l.getD 0 0).toNat > 126 ∨ (l.getD 0 0).toNat = 38 ∨ (l.getD 0 0).toNat = 61 then none
  else some (l.getD 0 0, 1)
theorem un1_some {l : List UInt8} {b : UInt8} {k : Nat} (h : l ≠ []) (e : un1 l = some (b, k)) : (k = 1 ∨ k = 3) ∧ k ≤ l.length := by
  have : 0 < l.length := List.length_pos_iff.2 h
  unfold un1 at e
  split at e
  · injection e with e; injection e with e1 e2; omega
  split at e
  · split at e
    · cases e
    split at e
    · cases e
    · injection e with e; injection e with e1 e2; omega
  split at e
  · cases e
  · injection e with e; injection e with e1 e2; omega
def unF : Nat → List UInt8 → Option (List UInt8)
  | 0, _ => some []
  | n + 1, l => if l = [] then some [] else match un1 l with
    | none => none
    | some (b, k) => (unF n (l.drop k)).map (b :: ·)
theorem unF_eq : ∀ n m l, l.length ≤ n → l.length ≤ m → unF n l = unF m l := by
  intro n
  induction n with
  | zero =>
    intro m l hn _
    have : l = [] := List.eq_nil_of_length_eq_zero (by omega)
    subst this
    cases m <;> simp [unF]
  | succ n ih =>
    intro m l hn hm
    cases m with
    | zero =>
      have : l = [] := List.eq_nil_of_length_eq_zero (by omega)
      subst this
      simp [unF]
    | succ m =>
      simp only [unF]
      by_cases h0 : l = []
      · rw [if_pos h0, if_pos h0]
      · rw [if_neg h0, if_neg h0]
        cases hu : un1 l with
        | none => rfl
        | some q =>
          obtain ⟨b, k⟩ := q
          have := un1_some h0 hu
          simp only
          rw [ih m (l.drop k) (by rw [List.length_drop]; omega) (by rw [List.length_drop]; omega)]
/-- The bytes that a list is, unescaped; none: it is not to be. -/
def un (l : List UInt8) : Option (List UInt8) := unF l.length l
theorem un_nil : un [] = some [] := rfl
theorem un_bad {l : List UInt8} (h : l ≠ []) (e : un1 l = none) : un l = none := by
  unfold un
  obtain ⟨b, r, rfl⟩ := List.exists_cons_of_ne_nil h
  simp only [List.length_cons, unF]
  rw [if_neg h, e]
theorem un_step {l : List UInt8} {b : UInt8} {k : Nat} (h : l ≠ []) (e : un1 l = some (b, k)) : un l = (un (l.drop k)).map (b :: ·) := by
  unfold un
  have hl : 0 < l.length := List.length_pos_iff.2 h
  have := un1_some h e
  rw [unF_eq l.length ((l.length - 1) + 1) l (Nat.le_refl _) (by omega)]
  simp only [unF]
  rw [if_neg h, e]
  simp only
  rw [unF_eq (l.length - 1) (l.drop k).length (l.drop k) (by rw [List.length_drop]; omega) (Nat.le_refl _)]
/-- The answer of Unescape: bytes and an error's number. -/
def unE (l : List UInt8) : List UInt8 × Nat := match un l with
  | none => ([], 31)
  | some t => if wrong t 0 < 0 then (t, 0) else ([], 30)
theorem unE_none {l : List UInt8} (h : un l = none) : unE l = ([], 31) := by unfold unE; rw [h]
theorem unE_good {l t : List UInt8} (h : un l = some t) (hw : wrong t 0 < 0) : unE l = (t, 0) := by unfold unE; rw [h]; simp [hw]
theorem unE_wrong {l t : List UInt8} (h : un l = some t) (hw : ¬ wrong t 0 < 0) : unE l = ([], 30) := by unfold unE; rw [h]; simp [hw]
theorem unF_len : ∀ n l t, unF n l = some t → t.length ≤ l.length := by
  intro n
  induction n with
  | zero => intro l t h; injection h with h; subst h; simp
  | succ n ih =>
    intro l t h
    simp only [unF] at h
    split at h
    · injection h with h; subst h; simp
    · next h0 =>
      cases hu : un1 l with
      | none => rw [hu] at h; cases h
      | some q =>
        obtain ⟨b, k⟩ := q
        rw [hu] at h
        have hk := un1_some h0 hu
        simp only [Option.map_eq_some_iff] at h
        obtain ⟨r, hr, rfl⟩ := h
        have := ih _ _ hr
        rw [List.length_drop] at this
        rw [List.length_cons]
        omega
theorem un_len {l t : List UInt8} (h : un l = some t) : t.length ≤ l.length := unF_len _ _ _ h
theorem unE_len (l : List UInt8) : (unE l).1.length ≤ l.length := by
  cases h : un l with
  | none => rw [unE_none h]; simp
  | some t =>
    by_cases hw : wrong t 0 < 0
    · rw [unE_good h hw]; exact un_len h
    · rw [unE_wrong h hw]; simp
theorem unE_code (l : List UInt8) : (unE l).2 = 0 ∨ (unE l).2 = 30 ∨ (unE l).2 = 31 := by
  unfold unE
  split
  · simp
  · split <;> simp
/-! Bytes by cases: all 256. -/
set_option maxRecDepth 100000 in
theorem byte_facts : ∀ n : Fin 256, (plain (UInt8.ofNat n) = true → ¬ (n.val < 33 ∨ n.val > 126 ∨ n.val = 38 ∨ n.val = 61 ∨ n.val = 43 ∨ n.val = 37))
    ∧ hv (hx (n / 16)) = ((n.val / 16 : Nat) : Int) ∧ hv (hx (n % 16)) = ((n.val % 16 : Nat) : Int) ∧ (∀ c ∈ esc1 (UInt8.ofNat n), 33 ≤ c.toNat ∧ c.toNat ≤ 126 ∧ c.toNat ≠ 38 ∧ c.toNat ≠ 61) := by decide +kernel
theorem byte_fact (b : UInt8) : (plain b = true → ¬ (b.toNat < 33 ∨ b.toNat > 126 ∨ b.toNat = 38 ∨ b.toNat = 61 ∨ b.toNat = 43 ∨ b.toNat = 37))
    ∧ hv (hx (b.toNat / 16)) = ((b.toNat / 16 : Nat) : Int) ∧ hv (hx (b.toNat % 16)) = ((b.toNat % 16 : Nat) : Int) ∧ (∀ c ∈ esc1 b, 33 ≤ c.toNat ∧ c.toNat ≤ 126 ∧ c.toNat ≠ 38 ∧ c.toNat ≠ 61) := by
  have h := byte_facts ⟨b.toNat, b.toNat_lt⟩
  rw [show UInt8.ofNat ((⟨b.toNat, b.toNat_lt⟩ : Fin 256) : Nat) = b by simp] at h
  exact h
theorem un_esc1 (b : UInt8) (r : List UInt8) : un (esc1 b ++ r) = (un r).map (b :: ·) := by
  obtain ⟨h1, h2, h3, _⟩ := byte_fact b
  have hb : b.toNat < 256 := b.toNat_lt
  unfold esc1
  split
  · next hp =>
    have hn := h1 hp
    have e : un1 ([b] ++ r) = some (b, 1) := by
      unfold un1
      simp only [List.cons_append, List.nil_append, List.getD_cons_zero]
      rw [if_neg (by omega), if_neg (by omega), if_neg (by omega)]
    rw [un_step (by simp) e]
    rfl
  split
  · next hp =>
    have e : un1 ([43] ++ r) = some (32, 1) := rfl
    rw [un_step (by simp) e, show b = 32 from UInt8.toNat_inj.1 (by simpa using hp)]
    rfl
  · have e : un1 ([37, hx (b.toNat / 16), hx (b.toNat % 16)] ++ r) = some (b, 3) := by
      unfold un1
      simp only [List.cons_append, List.nil_append, List.getD_cons_zero, List.getD_cons_succ, List.length_cons]
      rw [if_neg (by decide), if_pos (by decide), if_neg (by omega), h2, h3, if_neg (by omega)]
      congr 2
      apply UInt8.toNat_inj.1
      simp only [UInt8.toNat_ofNat']
      omega
    rw [un_step (by simp) e]
    rfl
theorem un_esc (l : List UInt8) : un (esc l) = some l := by
  induction l with
  | nil => rfl
  | cons b l ih => rw [esc_cons, un_esc1, ih]; rfl
theorem esc_letters (l : List UInt8) : ∀ c ∈ esc l, 33 ≤ c.toNat ∧ c.toNat ≤ 126 ∧ c.toNat ≠ 38 ∧ c.toNat ≠ 61 := by
  intro c hc
  simp only [esc, List.mem_flatMap] at hc
  obtain ⟨b, _, hb⟩ := hc
  exact (byte_fact b).2.2.2 c hb
/-! Parts. -/
def split (c : UInt8) : List UInt8 → List (List UInt8)
  | [] => [[]]
  | b :: r => if b = c then [] :: split c r else ((b :: (split c r).headD []) :: (split c r).tail)
theorem split_ne (c : UInt8) (l : List UInt8) : split c l ≠ [] := by
  cases l with
  | nil => simp [split]
  | cons b r => simp only [split]; split <;> simp
theorem split_none (c : UInt8) : ∀ l : List UInt8, c ∉ l → split c l = [l] := by
  intro l
  induction l with
  | nil => intro _; rfl
  | cons b r ih =>
    intro h
    simp only [List.mem_cons, not_or] at h
    simp only [split]
    rw [if_neg (fun e => h.1 e.symm), ih h.2]
    rfl
theorem split_at (c : UInt8) : ∀ (l r : List UInt8), c ∉ l → split c (l ++ c :: r) = l :: split c r := by
  intro l
  induction l with
  | nil => intro r _; simp [split]
  | cons b l ih =>
    intro r h
    simp only [List.mem_cons, not_or] at h
    simp only [List.cons_append, split]
    rw [if_neg (fun e => h.1 e.symm), ih r h.2]
    rfl
theorem split_count (c : UInt8) : ∀ l : List UInt8, (split c l).length = l.count c + 1 := by
  intro l
  induction l with
  | nil => rfl
  | cons b r ih =>
    have hne := split_ne c r
    simp only [split]
    by_cases h : b = c
    · rw [if_pos h, List.length_cons, ih, h, List.count_cons_self]
    · rw [if_neg h, List.count_cons_of_ne h]
      cases hs : split c r with
      | nil => exact absurd hs hne
      | cons p ps => rw [hs] at ih; simpa using ih
theorem split_lens (c : UInt8) : ∀ (l : List UInt8) p, p ∈ split c l → p.length ≤ l.length := by
  intro l
  induction l with
  | nil => intro p h; simp [split] at h; subst h; simp
  | cons b r ih =>
    intro p h
    have hne := split_ne c r
    simp only [split] at h
    split at h
    · rcases List.mem_cons.1 h with rfl | h
      · simp
      · have := ih p h; simp; omega
    · cases hs : split c r with
      | nil => exact absurd hs hne
      | cons q qs =>
        rw [hs] at h ih
        simp only [List.headD_cons, List.tail_cons] at h
        rcases List.mem_cons.1 h with rfl | h
        · have := ih q (by simp); simp; omega
        · have := ih p (by simp [h]); simp; omega
/-! Forms. -/
abbrev Pr := List UInt8 × List UInt8
def two (a b : List UInt8) : Pr × Nat := if (unE a).2 ≠ 0 then (([], []), (unE a).2) else if (unE b).2 ≠ 0 then (([], []), (unE b).2) else if (unE a).1 = [] then (([], []), 10) else (((unE a).1, (unE b).1), 0)
/-- A part of a form. -/
def one (p : List UInt8) : Pr × Nat := if (split 61 p).length ≠ 2 then (([], []), 31) else two ((split 61 p).getD 0 []) ((split 61 p).getD 1 [])
def has (l : List Pr) (n : List UInt8) : Bool := l.any fun q => decide (q.1 = n)
def formF : List Pr → List (List UInt8) → List Pr × Nat
  | acc, [] => (acc, 0)
  | acc, p :: ps => if acc.length = 32 then ([], 14) else if (one p).2 ≠ 0 then ([], (one p).2) else if has acc (one p).1.1 = true then ([], 15) else formF (acc ++ [(one p).1]) ps
def form (l : List UInt8) : List Pr × Nat := if l = [] then ([], 0) else formF [] (split 38 l)
def showp (q : Pr) : List UInt8 := esc q.1 ++ 61 :: esc q.2
def rest (l : List Pr) : List UInt8 := l.flatMap fun q => 38 :: showp q
def shown : List Pr → List UInt8
  | [] => []
  | q :: l => showp q ++ rest l
theorem two_code (a b : List UInt8) : (two a b).2 < 32 := by
  have h1 := unE_code a
  have h2 := unE_code b
  unfold two
  repeat' split
  all_goals simp only
  all_goals omega
theorem one_code (p : List UInt8) : (one p).2 < 32 := by
  unfold one
  split
  · simp
  · exact two_code _ _
theorem one_good {p : List UInt8} (h : (one p).2 = 0) : (one p).1.1 ≠ [] ∧ (one p).1.1.length ≤ p.length ∧ (one p).1.2.length ≤ p.length := by
  unfold one at h ⊢
  split at h
  · simp at h
  next h2 =>
  rw [if_neg h2]
  have hm : ∀ i, ((split 61 p).getD i []).length ≤ p.length := by
    intro i
    rw [List.getD_eq_getElem?_getD]
    cases hi : (split 61 p)[i]? with
    | none => simp
    | some q => exact split_lens 61 p q (List.mem_of_getElem? hi)
  have ha := hm 0
  have hb := hm 1
  generalize (split 61 p).getD 0 [] = a at *
  generalize (split 61 p).getD 1 [] = b at *
  have ea := unE_len a
  have eb := unE_len b
  unfold two at h ⊢
  split at h
  · next h3 => exact absurd h h3
  next h3 =>
  rw [if_neg h3]
  split at h
  · next h4 => exact absurd h h4
  next h4 =>
  rw [if_neg h4]
  split at h
  · exact absurd h (by simp)
  next h5 =>
  rw [if_neg h5]
  exact ⟨h5, by simp only; omega, by simp only; omega⟩
/-- What Form's pairs are like. -/
def Good (l : List Pr) : Prop := (∀ q ∈ l, q.1 ≠ []) ∧ (l.map (·.1)).Nodup
theorem has_iff (l : List Pr) (n : List UInt8) : has l n = true ↔ n ∈ l.map (·.1) := by
  unfold has
  simp only [List.any_eq_true, decide_eq_true_eq, List.mem_map]
theorem good_snoc {l : List Pr} {q : Pr} (h : Good l) (hq : q.1 ≠ []) (hn : ¬ has l q.1 = true) : Good (l ++ [q]) := by
  rw [has_iff] at hn
  refine ⟨fun p hp => ?_, ?_⟩
  · rcases List.mem_append.1 hp with hp | hp
    · exact h.1 p hp
    · rw [List.mem_singleton.1 hp]; exact hq
  · rw [List.map_append, List.nodup_append]
    refine ⟨h.2, by simp, ?_⟩
    intro a ha b hb
    simp only [List.map_cons, List.map_nil, List.mem_singleton] at hb
    rintro rfl
    rw [hb] at ha
    exact hn ha
theorem formF_good (M : Nat) : ∀ ps acc, Good acc → acc.length ≤ 32 → (∀ q ∈ acc, q.1.length ≤ M ∧ q.2.length ≤ M) → (∀ p ∈ ps, p.length ≤ M) →
    Good (formF acc ps).1 ∧ (formF acc ps).1.length ≤ 32 ∧ (∀ q ∈ (formF acc ps).1, q.1.length ≤ M ∧ q.2.length ≤ M) ∧ (formF acc ps).2 < 32 ∧ ((formF acc ps).2 ≠ 0 → (formF acc ps).1 = []) := by
  intro ps
  have hnil : Good [] := ⟨fun q hq => absurd hq (by simp), by simp⟩
  induction ps with
  | nil => intro acc h1 h2 h3 _; exact ⟨h1, h2, h3, by simp [formF], fun h => absurd rfl h⟩
  | cons p ps ih =>
    intro acc h1 h2 h3 h4
    simp only [formF]
    split
    · exact ⟨hnil, by simp, fun q hq => absurd hq (by simp), by simp, fun _ => rfl⟩
    split
    · exact ⟨hnil, by simp, fun q hq => absurd hq (by simp), one_code p, fun _ => rfl⟩
    split
    · exact ⟨hnil, by simp, fun q hq => absurd hq (by simp), by simp, fun _ => rfl⟩
    next h5 h6 h7 =>
    obtain ⟨g1, g2, g3⟩ := one_good (Decidable.not_not.1 h6)
    have hp := h4 p (by simp)
    refine ih _ (good_snoc h1 g1 h7) (by rw [List.length_append]; simp; omega) (fun q hq => ?_) (fun q hq => h4 q (by simp [hq]))
    rcases List.mem_append.1 hq with hq | hq
    · exact h3 q hq
    · rw [List.mem_singleton.1 hq]; exact ⟨by omega, by omega⟩
theorem form_good (l : List UInt8) : Good (form l).1 ∧ (form l).1.length ≤ 32 ∧ (∀ q ∈ (form l).1, q.1.length ≤ l.length ∧ q.2.length ≤ l.length) ∧ (form l).2 < 32 ∧ ((form l).2 ≠ 0 → (form l).1 = []) := by
  have hnil : Good [] := ⟨fun q hq => absurd hq (by simp), by simp⟩
  unfold form
  split
  · exact ⟨hnil, by simp, fun q hq => absurd hq (by simp), by simp, fun _ => rfl⟩
  · exact formF_good l.length _ [] hnil (by simp) (fun q hq => absurd hq (by simp)) (split_lens 38 l)
theorem not_mem_esc (l : List UInt8) (c : UInt8) (h : c.toNat = 38 ∨ c.toNat = 61) : c ∉ esc l := fun hc => by
  have := esc_letters l c hc
  omega
theorem showp_38 (q : Pr) : (38 : UInt8) ∉ showp q := by
  unfold showp
  simp only [List.mem_append, List.mem_cons, not_or]
  exact ⟨not_mem_esc _ _ (.inl rfl), by decide, not_mem_esc _ _ (.inl rfl)⟩
theorem split_shown : ∀ (l : List Pr) (q : Pr), split 38 (showp q ++ rest l) = (q :: l).map showp := by
  intro l
  induction l with
  | nil => intro q; rw [show rest [] = [] from rfl, List.append_nil, split_none _ _ (showp_38 q)]; rfl
  | cons p l ih =>
    intro q
    rw [show rest (p :: l) = 38 :: (showp p ++ rest l) from rfl, split_at _ _ _ (showp_38 q), ih p]
    rfl
theorem one_showp {a b : List UInt8} (ha : a ≠ []) (wa : wrong a 0 < 0) (wb : wrong b 0 < 0) : one (showp (a, b)) = ((a, b), 0) := by
  unfold one showp
  rw [split_at 61 (esc a) (esc b) (not_mem_esc _ _ (.inr rfl)), split_none 61 (esc b) (not_mem_esc _ _ (.inr rfl))]
  rw [if_neg (by simp)]
  simp only [List.getD_cons_zero, List.getD_cons_succ]
  unfold two
  rw [unE_good (un_esc a) wa, unE_good (un_esc b) wb]
  simp [ha]
theorem formF_shown : ∀ (l acc : List Pr), (acc ++ l).length ≤ 32 → Good (acc ++ l) → (∀ q ∈ l, wrong q.1 0 < 0 ∧ wrong q.2 0 < 0) → formF acc (l.map showp) = (acc ++ l, 0) := by
  intro l
  induction l with
  | nil => intro acc _ _ _; simp [formF]
  | cons q l ih =>
    intro acc h1 h2 h3
    obtain ⟨a, b⟩ := q
    have ho := one_showp (h2.1 (a, b) (by simp)) (h3 (a, b) (by simp)).1 (h3 (a, b) (by simp)).2
    have hlen : acc.length ≠ 32 := by simp at h1; omega
    have hh : ¬ has acc a = true := by
      rw [has_iff]
      intro hm
      have := h2.2
      rw [List.map_append, List.nodup_append] at this
      exact this.2.2 a hm a (by simp) rfl
    simp only [List.map_cons, formF]
    rw [if_neg hlen, ho]
    simp only [ne_eq, not_true_eq_false, if_false]
    rw [if_neg hh, ih (acc ++ [(a, b)]) (by simpa using h1) (by simpa using h2) (fun q hq => h3 q (by simp [hq]))]
    simp
theorem form_shown (l : List Pr) (h1 : l.length ≤ 32) (h2 : Good l) (h3 : ∀ q ∈ l, wrong q.1 0 < 0 ∧ wrong q.2 0 < 0) : form (shown l) = (l, 0) := by
  cases l with
  | nil => rfl
  | cons q l =>
    unfold form
    rw [if_neg (by unfold shown showp; simp)]
    rw [show shown (q :: l) = showp q ++ rest l from rfl, split_shown]
    exact formF_shown (q :: l) [] h1 h2 h3
theorem showp_len {q : Pr} {M : Nat} (h : q.1.length ≤ M ∧ q.2.length ≤ M) : (showp q).length ≤ 6 * M + 1 := by
  unfold showp
  have h1 := esc_len q.1
  have h2 := esc_len q.2
  rw [List.length_append, List.length_cons]
  omega
theorem rest_snoc (l : List Pr) (q : Pr) : rest (l ++ [q]) = rest l ++ 38 :: showp q := by simp [rest]
theorem shown_snoc (l : List Pr) (q : Pr) : shown (l ++ [q]) = (if l = [] then [] else shown l ++ [38]) ++ showp q := by
  cases l with
  | nil => simp [shown, rest]
  | cons p l => simp [shown, rest_snoc]
theorem rest_len {M : Nat} : ∀ l : List Pr, (∀ q ∈ l, q.1.length ≤ M ∧ q.2.length ≤ M) → (rest l).length ≤ l.length * (6 * M + 2) := by
  intro l
  induction l with
  | nil => intro _; simp [rest]
  | cons q l ih =>
    intro h
    have h1 := ih fun p hp => h p (by simp [hp])
    have h2 := showp_len (h q (by simp))
    rw [show rest (q :: l) = 38 :: (showp q ++ rest l) from rfl, List.length_cons, List.length_append, List.length_cons, Nat.succ_mul]
    omega
theorem shown_len {M : Nat} (l : List Pr) (h : ∀ q ∈ l, q.1.length ≤ M ∧ q.2.length ≤ M) : (shown l).length ≤ l.length * (6 * M + 2) := by
  cases l with
  | nil => simp [shown]
  | cons q l =>
    have h1 := rest_len l fun p hp => h p (by simp [hp])
    have h2 := showp_len (h q (by simp))
    rw [show shown (q :: l) = showp q ++ rest l from rfl, List.length_append, List.length_cons, Nat.succ_mul]
    omega
end Go.Proofs.YtkenananejgcpaaGreatDoor.Txt
