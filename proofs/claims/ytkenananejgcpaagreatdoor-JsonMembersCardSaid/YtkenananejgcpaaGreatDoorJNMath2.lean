/-
  Numbers as texts, in mathematics: which texts the program tells as machine's numbers, and that what strconv writes is read as it was.
-/
import Derived.Test.YtkenananejgcpaaGreatDoorJNMath
namespace Go.Proofs.YtkenananejgcpaaGreatDoor.Jsn
open Go.RowKit Txt
theorem drop_all (l : List UInt8) (h : l.dropWhile isD = []) : l.all isD = true := by
  induction l with
  | nil => rfl
  | cons b l ih =>
    by_cases hb : isD b = true
    · rw [List.dropWhile_cons_of_pos hb] at h
      rw [List.all_cons, hb, ih h]; rfl
    · rw [List.dropWhile_cons_of_neg hb] at h; cases h
theorem all_drop (l : List UInt8) (h : l.all isD = true) : l.dropWhile isD = [] := by
  induction l with
  | nil => rfl
  | cons b l ih =>
    rw [List.all_cons, Bool.and_eq_true] at h
    rw [List.dropWhile_cons_of_pos h.1, ih h.2]
theorem drop_head {l : List UInt8} {c : UInt8} {r : List UInt8} (h : l.dropWhile isD = c :: r) : isD c = false := by
  induction l with
  | nil => cases h
  | cons b l ih =>
    by_cases hb : isD b = true
    · rw [List.dropWhile_cons_of_pos hb] at h; exact ih h
    · rw [List.dropWhile_cons_of_neg hb] at h
      injection h with h _
      subst h
      simpa using hb
theorem drop_mem {l : List UInt8} {c : UInt8} (h : c ∈ l.dropWhile isD) : c ∈ l := (List.dropWhile_sublist isD).subset h
/-- A text without a point and a letter. -/
def Whole (l : List UInt8) : Prop := ∀ c ∈ l, c.toNat ≠ 46 ∧ c.toNat ≠ 101 ∧ c.toNat ≠ 69
theorem notD {c : UInt8} (h : isD c = false) : ¬ (48 ≤ c.toNat ∧ c.toNat ≤ 57) := fun h' => by rw [(isD_iff c).2 h'] at h; cases h
theorem nxt3_none {c : UInt8} (h : isD c = false) (h1 : c.toNat ≠ 46 ∧ c.toNat ≠ 101 ∧ c.toNat ≠ 69) : nxt 3 (c.toNat : Nat) = 9 := by
  have := notD h
  unfold nxt ifd
  simp
  (repeat' split) <;> omega
theorem nxt2_none {c : UInt8} (h1 : c.toNat ≠ 46 ∧ c.toNat ≠ 101 ∧ c.toNat ≠ 69) : nxt 2 (c.toNat : Nat) = 9 := by
  unfold nxt ifd
  simp
  (repeat' split) <;> omega
theorem full3_all {l : List UInt8} (h : full 3 l = true) (hw : Whole l) : l.all isD = true := by
  rw [full_skip 3 (.inl rfl)] at h
  apply drop_all
  cases hd : l.dropWhile isD with
  | nil => rfl
  | cons c r =>
    rw [hd, full_cons, nxt3_none (drop_head hd) (hw c (drop_mem (by rw [hd]; exact List.mem_cons_self)))] at h
    cases h
theorem full2_nil {l : List UInt8} (h : full 2 l = true) (hw : Whole l) : l = [] := by
  cases l with
  | nil => rfl
  | cons c r =>
    rw [full_cons, nxt2_none (hw c List.mem_cons_self)] at h
    cases h
theorem nxt_start {st : Nat} (hs : st = 0 ∨ st = 1) (c : UInt8) (h45 : c.toNat ≠ 45) : nxt st (c.toNat : Nat) = if c.toNat = 48 then 2 else if isD c then 3 else 9 := by
  have hi := isD_iff c
  rcases hs with rfl | rfl <;> unfold nxt ifd <;> simp only [or_true, true_or, if_true] <;> (repeat' split) <;> simp_all <;> omega
/-- Digits, of which there is no nought ahead of others. -/
structure Plain (ds : List UInt8) : Prop where
  ne : ds ≠ []
  all : ds.all isD = true
  hd : ds.head? ≠ some 48 ∨ ds.length = 1
theorem start_plain {st : Nat} (hs : st = 0 ∨ st = 1) {c : UInt8} {r : List UInt8} (h45 : c.toNat ≠ 45) (h : full st (c :: r) = true) (hw : Whole (c :: r)) : Plain (c :: r) := by
  have hwr : Whole r := fun x hx => hw x (List.mem_cons_of_mem _ hx)
  rw [full_cons, nxt_start hs c h45] at h
  by_cases h48 : c.toNat = 48
  · rw [if_pos h48] at h
    obtain rfl := full2_nil (by simpa using h) hwr
    exact ⟨by simp, by simp only [List.all_cons, List.all_nil, Bool.and_true]; rw [isD_iff]; omega, .inr rfl⟩
  · rw [if_neg h48] at h
    by_cases hd : isD c = true
    · rw [if_pos hd] at h
      have := full3_all (by simpa using h) hwr
      refine ⟨by simp, by rw [List.all_cons, hd, this]; rfl, .inl fun e => ?_⟩
      simp only [List.head?_cons, Option.some.injEq] at e
      rw [e] at h48
      exact h48 rfl
    · rw [if_neg hd] at h
      simp at h
theorem int_text {l : List UInt8} (h : isNum l = true) (hw : Whole l) : Plain l ∨ ∃ ds, l = 45 :: ds ∧ Plain ds := by
  rw [isNum_full] at h
  cases l with
  | nil => rw [full_nil] at h; cases h
  | cons c r =>
    by_cases h45 : c.toNat = 45
    · obtain rfl : c = 45 := UInt8.toNat_inj.1 h45
      have hwr : Whole r := fun x hx => hw x (List.mem_cons_of_mem _ hx)
      rw [full_cons] at h
      have h1 : full 1 r = true := by simpa [nxt] using h
      cases r with
      | nil => rw [full_nil] at h1; cases h1
      | cons d r =>
        by_cases hd45 : d.toNat = 45
        · rw [full_cons] at h1
          have : nxt 1 (d.toNat : Nat) = 9 := by rw [hd45]; decide
          rw [this] at h1
          cases h1
        · exact .inr ⟨_, rfl, start_plain (.inr rfl) hd45 h1 hwr⟩
    · exact .inl (start_plain (.inl rfl) h45 h hw)
theorem full3_digits {l : List UInt8} (h : l.all isD = true) : full 3 l = true := by
  rw [full_skip 3 (.inl rfl), all_drop l h, full_nil]; rfl
theorem plain_full {st : Nat} (hs : st = 0 ∨ st = 1) {ds : List UInt8} (h : Plain ds) : full st ds = true := by
  obtain ⟨h1, h2, h3⟩ := h
  cases ds with
  | nil => exact absurd rfl h1
  | cons c r =>
    rw [List.all_cons, Bool.and_eq_true] at h2
    have hc := (isD_iff c).1 h2.1
    rw [full_cons, nxt_start hs c (by omega)]
    by_cases h48 : c.toNat = 48
    · obtain rfl : c = 48 := UInt8.toNat_inj.1 h48
      have hr : r = [] := by
        have : (48 :: r : List UInt8).length = 1 := h3.resolve_left (fun h => h rfl)
        simpa using this
      subst hr
      decide
    · rw [if_neg h48, if_pos h2.1]
      simpa using full3_digits h2.2
theorem dec_plain (u : Nat) : Plain (Lib.decDigits u) := by
  obtain ⟨h1, h2, h3, h4⟩ := dec_all u
  refine ⟨h3, h1, ?_⟩
  by_cases h0 : u = 0
  · subst h0
    exact .inr (by rw [Lib.decDigits_one (by decide)]; rfl)
  · exact .inl (h4 h0)
theorem minus_full {ds : List UInt8} (h : Plain ds) : isNum (45 :: ds) = true := by
  rw [isNum_full, full_cons]
  have := plain_full (.inr rfl) h
  simpa [nxt] using this
/-! What ParseInt tells of such texts. -/
theorem uint_plain {ds : List UInt8} (h : Plain ds) (hv : valD 0 ds ≤ 18446744073709551615) : Lib.parseUintB 64 ds = .ok (valD 0 ds) := by
  unfold Lib.parseUintB
  rw [if_neg h.ne]
  exact parseM_all _ (by decide) ds 0 h.all hv
theorem uint_ok {ds : List UInt8} {u : Nat} (h : Lib.parseUintB 64 ds = .ok u) : ds.all isD = true ∧ u = valD 0 ds := by
  unfold Lib.parseUintB at h
  split at h
  · cases h
  · exact parseM_ok _ _ _ _ h
theorem plain_head {c : UInt8} {r : List UInt8} (h : Plain (c :: r)) : c.toNat ≠ 43 ∧ c.toNat ≠ 45 := by
  have h2 := h.all
  rw [List.all_cons, Bool.and_eq_true] at h2
  have hc := (isD_iff c).1 h2.1
  omega
theorem parse_plain {ds : List UInt8} (h : Plain ds) (hv : valD 0 ds < 9223372036854775808) : Lib.parseIntB 64 ds = .ok (valD 0 ds : Nat) := by
  cases ds with
  | nil => exact absurd rfl h.ne
  | cons c r =>
    obtain ⟨h43, h45⟩ := plain_head h
    rw [Lib.parseIntB_plain 64 c r h43 h45, uint_plain h (by omega)]
    generalize valD 0 (c :: r) = u at *
    unfold Lib.signlessC
    simp
    omega
theorem parse_minus {ds : List UInt8} (h : Plain ds) (hv : valD 0 ds ≤ 9223372036854775808) : Lib.parseIntB 64 (45 :: ds) = .ok (-(valD 0 ds : Nat)) := by
  rw [Lib.parseIntB_minus 64 ds, uint_plain h (by omega)]
  generalize valD 0 ds = u at *
  unfold Lib.signedC
  simp
  omega
theorem itoa_num (n : Int) : isNum (Lib.itoa n) = true := by
  by_cases h : n < 0
  · obtain ⟨u, rfl, hu⟩ : ∃ u : Nat, n = -(u : Int) ∧ 1 ≤ u := ⟨n.natAbs, by omega, by omega⟩
    rw [Lib.itoa_neg u hu]
    exact minus_full (dec_plain u)
  · obtain ⟨u, rfl⟩ : ∃ u : Nat, n = (u : Int) := ⟨n.toNat, by omega⟩
    rw [Lib.itoa_nonneg, isNum_full]
    exact plain_full (.inl rfl) (dec_plain u)
theorem itoa_parse (n : Int) (h0 : -9223372036854775808 ≤ n) (h1 : n ≤ 9223372036854775807) : Lib.parseIntB 64 (Lib.itoa n) = .ok n := by
  by_cases h : n < 0
  · obtain ⟨u, rfl, hu⟩ : ∃ u : Nat, n = -(u : Int) ∧ 1 ≤ u := ⟨n.natAbs, by omega, by omega⟩
    rw [Lib.itoa_neg u hu, parse_minus (dec_plain u) (by rw [(dec_all u).2.1]; omega), (dec_all u).2.1]
  · obtain ⟨u, rfl⟩ : ∃ u : Nat, n = (u : Int) := ⟨n.toNat, by omega⟩
    rw [Lib.itoa_nonneg, parse_plain (dec_plain u) (by rw [(dec_all u).2.1]; omega), (dec_all u).2.1]
/-- The machine's number that a text is, if it is small enough. -/
def jInt (l : List UInt8) : Option Int := if isNum l then (match Lib.parseIntB 64 l with | .ok n => if -9007199254740992 ≤ n ∧ n ≤ 9007199254740992 then some n else none | _ => none) else none
theorem jInt_itoa (n : Int) (h0 : -9223372036854775808 ≤ n) (h1 : n ≤ 9223372036854775807) : jInt (Lib.itoa n) = if -9007199254740992 ≤ n ∧ n ≤ 9007199254740992 then some n else none := by
  unfold jInt
  rw [itoa_num, itoa_parse n h0 h1]
  rfl
theorem jInt_some {l : List UInt8} {k : Int} (h : jInt l = some k) : isNum l = true ∧ Lib.parseIntB 64 l = .ok k ∧ -9007199254740992 ≤ k ∧ k ≤ 9007199254740992 := by
  unfold jInt at h
  split at h
  · rename_i hn
    split at h
    · rename_i n hp
      split at h
      · rename_i hb
        injection h with h
        subst h
        exact ⟨hn, hp, hb.1, hb.2⟩
      · cases h
    · cases h
  · cases h
/-- A text that is told as a number is the number's own, or -0. -/
theorem jInt_back {l : List UInt8} {k : Int} (h : jInt l = some k) (hw : Whole l) : (l = [45, 48] ∧ k = 0) ∨ Lib.itoa k = l := by
  obtain ⟨hn, hp, hk0, hk1⟩ := jInt_some h
  rcases int_text hn hw with hpl | ⟨ds, rfl, hpl⟩
  · right
    have hu : ∃ u, Lib.parseUintB 64 l = .ok u ∧ k = (u : Int) := by
      cases l with
      | nil => exact absurd rfl hpl.ne
      | cons c r =>
        obtain ⟨h43, h45⟩ := plain_head hpl
        rw [Lib.parseIntB_plain 64 c r h43 h45] at hp
        cases hx : Lib.parseUintB 64 (c :: r) with
        | ok u =>
          rw [hx] at hp
          unfold Lib.signlessC at hp
          simp only at hp
          split at hp
          · cases hp
          · injection hp with hp
            exact ⟨u, rfl, hp.symm⟩
        | _ => rw [hx] at hp; cases hp
    obtain ⟨u, hx, rfl⟩ := hu
    obtain ⟨_, rfl⟩ := uint_ok hx
    rw [Lib.itoa_nonneg, dec_val _ l rfl hpl.ne hpl.all hpl.hd]
  · rw [Lib.parseIntB_minus 64 ds] at hp
    cases hx : Lib.parseUintB 64 ds with
    | ok u =>
      rw [hx] at hp
      unfold Lib.signedC at hp
      simp only at hp
      split at hp
      · cases hp
      · injection hp with hp
        obtain ⟨_, hu⟩ := uint_ok hx
        by_cases h0 : u = 0
        · left
          have h48 : ¬ (ds.head? ≠ some 48) := fun h48 => by have := val_pos hpl.ne hpl.all h48; omega
          have hl1 : ds.length = 1 := hpl.hd.resolve_left h48
          refine ⟨?_, by omega⟩
          cases ds with
          | nil => cases hl1
          | cons c r =>
            have hr : r = [] := by simpa using hl1
            subst hr
            have : c = 48 := by simpa using h48
            rw [this]
        · right
          rw [← hp, Lib.itoa_neg u (by omega), hu, dec_val _ ds rfl hpl.ne hpl.all hpl.hd]
    | _ => rw [hx] at hp; cases hp
theorem digits_whole {l : List UInt8} (h : l.all isD = true) : Whole l := fun c hc => by
  have := (isD_iff c).1 (List.all_eq_true.1 h c hc)
  omega
/-- A text with a point or a letter is no machine's number. -/
theorem jInt_whole {l : List UInt8} {k : Int} (h : jInt l = some k) : Whole l := by
  obtain ⟨hn, hp, _⟩ := jInt_some h
  have key : ∀ (ds : List UInt8) (f : Lib.NumEnd Nat → Lib.NumEnd Int), (∀ e : Lib.NumEnd Nat, (∀ u, e ≠ .ok u) → ∀ v, f e ≠ .ok v) → f (Lib.parseUintB 64 ds) = .ok k → Whole ds := by
    intro ds f hf h
    cases hx : Lib.parseUintB 64 ds with
    | ok u => exact digits_whole (uint_ok hx).1
    | _ => rw [hx] at h; exact absurd h (hf _ (by intro u e; cases e) _)
  have hsl : ∀ M (e : Lib.NumEnd Nat), (∀ u, e ≠ .ok u) → ∀ v, Lib.signlessC M e ≠ .ok v := by
    intro M e he v
    cases e with
    | ok u => exact absurd rfl (he u)
    | _ => intro h; cases h
  have hsg : ∀ M (e : Lib.NumEnd Nat), (∀ u, e ≠ .ok u) → ∀ v, Lib.signedC M e ≠ .ok v := by
    intro M e he v
    cases e with
    | ok u => exact absurd rfl (he u)
    | _ => intro h; cases h
  cases l with
  | nil => intro c hc; cases hc
  | cons c r =>
    by_cases h45 : c.toNat = 45
    · obtain rfl : c = 45 := UInt8.toNat_inj.1 h45
      rw [Lib.parseIntB_minus] at hp
      have := key r _ (hsg _) hp
      intro x hx
      rcases List.mem_cons.1 hx with rfl | hx
      · decide
      · exact this x hx
    · by_cases h43 : c.toNat = 43
      · obtain rfl : c = 43 := UInt8.toNat_inj.1 h43
        rw [Lib.parseIntB_plus] at hp
        have := key r _ (hsl _) hp
        intro x hx
        rcases List.mem_cons.1 hx with rfl | hx
        · decide
        · exact this x hx
      · rw [Lib.parseIntB_plain 64 c r h43 h45] at hp
        exact key _ _ (hsl _) hp
end Go.Proofs.YtkenananejgcpaaGreatDoor.Jsn
