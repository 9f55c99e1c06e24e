/-
  The plain mathematics of CRC-32 in natural numbers: one shift, eight of them, a text's state and its sum; that all of it is linear under xor, that a text's state is the shifts of its own number, and that turned bits in a row change it. No program stands in it.
-/
namespace Go.Proofs.Ytaoaegkfejlgkaa
namespace Crc
/-- All bits are shifted down by one; if the lowest was 1, they are xored. -/
def step (s : Nat) : Nat := if s % 2 = 1 then s / 2 ^^^ 3988292384 else s / 2
def steps : Nat → Nat → Nat
  | 0, s => s
  | n + 1, s => steps n (step s)
/-- The state behind the bytes l. -/
def run (s : Nat) (l : List Nat) : Nat := l.foldl (fun t x => steps 8 (t ^^^ x)) s
/-- The checksum of bytes. -/
def sum (l : List Nat) : Nat := 4294967295 - run 4294967295 l
def Bs (l : List Nat) : Prop := ∀ x ∈ l, x < 256
/-- Bytes as one number, the lowest first. -/
def val : List Nat → Nat
  | [] => 0
  | x :: r => x ^^^ val r * 256

theorem xor4 (a b p : Nat) : (a ^^^ p) ^^^ (b ^^^ p) = a ^^^ b := by
  rw [Nat.xor_comm b p, Nat.xor_assoc, ← Nat.xor_assoc p, Nat.xor_self, Nat.zero_xor]
theorem eq_of_xor {a b : Nat} (h : a ^^^ b = 0) : a = b := by
  have e := congrArg (· ^^^ b) h
  simpa [Nat.xor_assoc] using e
theorem xor_left_comm (a b c : Nat) : a ^^^ (b ^^^ c) = b ^^^ (a ^^^ c) := by rw [← Nat.xor_assoc, Nat.xor_comm a b, Nat.xor_assoc]
theorem step_xor (a b : Nat) : step (a ^^^ b) = step a ^^^ step b := by
  unfold step
  have h : (a ^^^ b) % 2 = 1 ↔ ¬ ((a % 2 = 1) ↔ (b % 2 = 1)) := Nat.xor_mod_two_eq_one
  rw [Nat.xor_div_two]
  rcases Nat.mod_two_eq_zero_or_one a with ha | ha <;> rcases Nat.mod_two_eq_zero_or_one b with hb | hb
  · rw [if_neg (by rw [h]; omega), if_neg (by omega), if_neg (by omega)]
  · rw [if_pos (by rw [h]; omega), if_neg (by omega), if_pos hb, Nat.xor_assoc]
  · rw [if_pos (by rw [h]; omega), if_pos ha, if_neg (by omega), Nat.xor_assoc, Nat.xor_assoc, Nat.xor_comm 3988292384]
  · rw [if_neg (by rw [h]; omega), if_pos ha, if_pos hb, xor4]
theorem steps_xor (n : Nat) : ∀ a b : Nat, steps n (a ^^^ b) = steps n a ^^^ steps n b := by
  induction n with
  | zero => intro a b; rfl
  | succ n ih => intro a b; simp only [steps, step_xor, ih]
theorem steps_add (m : Nat) : ∀ n s : Nat, steps (m + n) s = steps n (steps m s) := by
  induction m with
  | zero => intro n s; simp [steps]
  | succ m ih => intro n s; rw [show m + 1 + n = (m + n) + 1 by omega]; simp only [steps, ih]
theorem steps_succ (n s : Nat) : steps (n + 1) s = step (steps n s) := steps_add n 1 s
theorem step_lt {s : Nat} (h : s < 4294967296) : step s < 4294967296 := by
  unfold step
  split
  · exact Nat.xor_lt_two_pow (n := 32) (by omega) (by decide)
  · omega
theorem steps_lt (n : Nat) : ∀ {s : Nat}, s < 4294967296 → steps n s < 4294967296 := by
  induction n with
  | zero => intro s h; exact h
  | succ n ih => intro s h; exact ih (step_lt h)
theorem step_ne {s : Nat} (h0 : s ≠ 0) (h : s < 4294967296) : step s ≠ 0 := by
  unfold step
  split
  · intro e
    have := eq_of_xor e
    omega
  · omega
theorem steps_ne (n : Nat) : ∀ {s : Nat}, s ≠ 0 → s < 4294967296 → steps n s ≠ 0 := by
  induction n with
  | zero => intro s h _; exact h
  | succ n ih => intro s h0 h; exact ih (step_ne h0 h) (step_lt h)
theorem step_two (y : Nat) : step (y * 2) = y := by
  unfold step
  rw [if_neg (by omega)]
  omega
theorem steps_pow (n : Nat) : ∀ y : Nat, steps n (y * 2 ^ n) = y := by
  induction n with
  | zero => intro y; simp [steps]
  | succ n ih => intro y; rw [Nat.pow_succ, ← Nat.mul_assoc]; simp only [steps]; rw [step_two, ih]
theorem run_nil (s : Nat) : run s [] = s := by unfold run; rw [List.foldl_nil]
theorem run_cons (s x : Nat) (r : List Nat) : run s (x :: r) = run (steps 8 (s ^^^ x)) r := by unfold run; rw [List.foldl_cons]
theorem run_append (a b : List Nat) (s : Nat) : run s (a ++ b) = run (run s a) b := by unfold run; rw [List.foldl_append]
theorem xor_byte {s x : Nat} (h : s < 4294967296) (hx : x < 256) : s ^^^ x < 4294967296 := Nat.xor_lt_two_pow (n := 32) h (by omega)
theorem run_lt (l : List Nat) : ∀ {s : Nat}, s < 4294967296 → Bs l → run s l < 4294967296 := by
  induction l with
  | nil => intro s h _; rw [run_nil]; exact h
  | cons x r ih =>
    intro s h hb
    have h1 := steps_lt 8 (xor_byte h (hb x (by simp)))
    rw [run_cons]
    generalize steps 8 (s ^^^ x) = s1 at *
    exact ih h1 (fun y hy => hb y (by simp [hy]))
theorem run_snoc (s : Nat) (l : List Nat) (k : Nat) (hk : k < l.length) : run s (l.take (k + 1)) = steps 8 (run s (l.take k) ^^^ l.getD k 0) := by
  rw [List.take_succ_eq_append_getElem hk, run_append, run_cons, run_nil, List.getD_eq_getElem?_getD, List.getElem?_eq_getElem hk, Option.getD_some]
theorem run_val (l : List Nat) : ∀ s : Nat, run s l = steps (8 * l.length) (s ^^^ val l) := by
  induction l with
  | nil => intro s; rw [run_nil]; simp [val, steps]
  | cons x r ih =>
    intro s
    have h8 := steps_pow 8 (val r)
    rw [show (2 : Nat) ^ 8 = 256 from rfl] at h8
    rw [run_cons, ih, val, List.length_cons, show 8 * (r.length + 1) = 8 + 8 * r.length by omega, steps_add 8, ← Nat.xor_assoc, steps_xor 8 (s ^^^ x), h8]
theorem Bs.getD {l : List Nat} (h : Bs l) (i : Nat) : l.getD i 0 < 256 := by
  rw [List.getD_eq_getElem?_getD]
  by_cases hi : i < l.length
  · rw [List.getElem?_eq_getElem hi]; exact h _ (List.getElem_mem hi)
  · rw [List.getElem?_eq_none (by omega)]; decide
theorem Bs.take {l : List Nat} (h : Bs l) (n : Nat) : Bs (l.take n) := fun x hx => h x (List.mem_of_mem_take hx)
theorem Bs.flat {ps : List (List Nat)} (h : ∀ p ∈ ps, Bs p) : Bs ps.flatten := fun x hx => by
  rw [List.mem_flatten] at hx
  obtain ⟨l, hl, hx⟩ := hx
  exact h l hl x hx
theorem inv_xor {x : Nat} (h : x < 4294967296) : 4294967295 - x = x ^^^ 4294967295 := by
  have e := congrArg BitVec.toNat (BitVec.xor_allOnes (x := BitVec.ofNat 32 x))
  rw [BitVec.toNat_xor, BitVec.toNat_not, BitVec.toNat_allOnes, BitVec.toNat_ofNat, Nat.mod_eq_of_lt (by omega)] at e
  rw [show (2 : Nat) ^ 32 - 1 = 4294967295 from rfl] at e
  exact e.symm
theorem sum_lt (l : List Nat) : sum l < 4294967296 := by unfold sum; omega
theorem sum_xor {l : List Nat} (h : Bs l) : sum l = run 4294967295 l ^^^ 4294967295 := inv_xor (run_lt l (by decide) h)
/-- The sums' xor of three texts of one length. -/
theorem sum3 {a b c d : List Nat} (ha : Bs a) (hb : Bs b) (hc : Bs c) (hd : Bs d) (la : a.length = d.length) (lb : b.length = d.length) (lc : c.length = d.length) (h : val d = val a ^^^ val b ^^^ val c) :
    sum a ^^^ sum b ^^^ sum c = sum d := by
  rw [sum_xor ha, sum_xor hb, sum_xor hc, sum_xor hd, xor4, ← Nat.xor_assoc]
  congr 1
  rw [run_val, run_val, run_val, run_val, la, lb, lc, ← steps_xor, ← steps_xor, h]
  congr 1
  rw [Nat.xor_comm 4294967295 (val a), Nat.xor_comm 4294967295 (val b), xor4, xor_left_comm]
theorem val_xor3 : ∀ a b c d : List Nat, a.length = d.length → b.length = d.length → c.length = d.length → (∀ i, i < d.length → d.getD i 0 = a.getD i 0 ^^^ b.getD i 0 ^^^ c.getD i 0) → val d = val a ^^^ val b ^^^ val c
  | [], [], [], [], _, _, _, _ => rfl
  | [], [], z :: c, d, la, _, lc, _ => by simp only [List.length_cons, List.length_nil] at la lc; omega
  | [], y :: b, c, d, la, lb, _, _ => by simp only [List.length_cons, List.length_nil] at la lb; omega
  | x :: a, [], c, d, la, lb, _, _ => by simp only [List.length_cons, List.length_nil] at la lb; omega
  | x :: a, y :: b, [], d, la, _, lc, _ => by simp only [List.length_cons, List.length_nil] at la lc; omega
  | x :: a, y :: b, z :: c, t :: d, la, lb, lc, h => by
    have h0 := h 0 (by simp)
    simp only [List.getD_cons_zero] at h0
    have ih := val_xor3 a b c d (by simpa using la) (by simpa using lb) (by simpa using lc) (fun i hi => by simpa using h (i + 1) (by simpa using hi))
    simp only [val]
    rw [h0, ih, show (256 : Nat) = 2 ^ 8 from rfl]
    apply Nat.eq_of_testBit_eq
    intro j
    simp only [Nat.testBit_xor, Nat.testBit_mul_two_pow]
    by_cases hj : 8 ≤ j
    · simp only [hj, decide_true, Bool.true_and]
      generalize x.testBit j = p1; generalize y.testBit j = p2; generalize z.testBit j = p3; generalize (val a).testBit (j - 8) = p4; generalize (val b).testBit (j - 8) = p5; generalize (val c).testBit (j - 8) = p6
      cases p1 <;> cases p2 <;> cases p3 <;> cases p4 <;> cases p5 <;> cases p6 <;> rfl
    · simp [hj]
/-- One bit turned. -/
theorem val_set : ∀ (l : List Nat) (i m : Nat), i < l.length → val (l.set i (l.getD i 0 ^^^ m)) = val l ^^^ m * 2 ^ (8 * i)
  | x :: r, 0, m, _ => by
    simp only [List.set_cons_zero, List.getD_cons_zero, val, Nat.mul_zero, Nat.pow_zero, Nat.mul_one]
    ac_rfl
  | x :: r, i + 1, m, h => by
    have ih := val_set r i m (by simpa using h)
    simp only [List.set_cons_succ, List.getD_cons_succ, val]
    rw [ih, show (256 : Nat) = 2 ^ 8 from rfl, show 8 * (i + 1) = 8 * i + 8 by omega, Nat.pow_add, ← Nat.mul_assoc, Nat.xor_assoc]
    congr 1
    apply Nat.eq_of_testBit_eq
    intro j
    simp only [Nat.testBit_xor, Nat.testBit_mul_two_pow]
    by_cases hj : 8 ≤ j <;> simp [hj]
theorem low_bit (n k : Nat) : n % 2 ^ (k + 1) = if n / 2 ^ k % 2 = 1 then n % 2 ^ k ^^^ 2 ^ k else n % 2 ^ k := by
  have hb : n / 2 ^ k % 2 = (n.testBit k).toNat := by
    rw [Nat.toNat_testBit]
  apply Nat.eq_of_testBit_eq
  intro j
  rw [Nat.testBit_mod_two_pow]
  split
  · rename_i h
    rw [Nat.testBit_xor, Nat.testBit_mod_two_pow, Nat.testBit_two_pow]
    rw [hb] at h
    by_cases hj : j = k
    · subst hj
      have : n.testBit j = true := by cases e : n.testBit j <;> simp [e] at h ⊢
      simp [this]
    · by_cases hlt : j < k
      · simp [hlt, show j < k + 1 by omega, show ¬ k = j by omega]
      · simp [hlt, show ¬ j < k + 1 by omega, show ¬ k = j by omega]
  · rename_i h
    rw [Nat.testBit_mod_two_pow]
    rw [hb] at h
    by_cases hj : j = k
    · subst hj
      have : n.testBit j = false := by cases e : n.testBit j <;> simp [e] at h ⊢
      simp [this]
    · by_cases hlt : j < k
      · simp [hlt, show j < k + 1 by omega]
      · simp [hlt, show ¬ j < k + 1 by omega]
/-- The text c is the text b, with the first k of the bits turned, from bit p on. -/
def Turned (b c : List Nat) (p bits k : Nat) : Prop := c.length = b.length ∧ Bs c ∧ val c = val b ^^^ bits % 2 ^ k * 2 ^ p
theorem Turned.start {b : List Nat} (h : Bs b) (p bits : Nat) : Turned b b p bits 0 := ⟨rfl, h, by simp [Nat.mod_one]⟩
theorem Turned.keep {b c : List Nat} {p bits k : Nat} (h : Turned b c p bits k) (h0 : bits / 2 ^ k % 2 = 0) : Turned b c p bits (k + 1) := by
  obtain ⟨h1, h2, h3⟩ := h
  refine ⟨h1, h2, ?_⟩
  rw [low_bit, if_neg (by omega)]
  exact h3
theorem Bs_set {l : List Nat} (h : Bs l) (i v : Nat) (hv : v < 256) : Bs (l.set i v) := fun x hx => by
  rcases List.mem_or_eq_of_mem_set hx with h1 | h1
  · exact h x h1
  · omega
theorem bit_lt (n : Nat) : 2 ^ (n % 8) < 256 := by
  have : n % 8 < 8 := Nat.mod_lt _ (by decide)
  calc 2 ^ (n % 8) < 2 ^ 8 := Nat.pow_lt_pow_right (by decide) this
    _ = 256 := rfl
theorem Turned.turn {b c : List Nat} {p bits k : Nat} (h : Turned b c p bits k) (h1 : bits / 2 ^ k % 2 = 1) (hp : p + k < 8 * b.length) :
    Turned b (c.set ((p + k) / 8) (c.getD ((p + k) / 8) 0 ^^^ 2 ^ ((p + k) % 8))) p bits (k + 1) := by
  obtain ⟨hl, hb, hv⟩ := h
  refine ⟨by simpa using hl, Bs_set hb _ _ (Nat.xor_lt_two_pow (n := 8) (hb.getD _) (bit_lt _)), ?_⟩
  rw [val_set _ _ _ (by omega), hv, low_bit, if_pos h1, ← Nat.pow_add, show (p + k) % 8 + 8 * ((p + k) / 8) = k + p by omega, Nat.xor_assoc]
  congr 1
  apply Nat.eq_of_testBit_eq
  intro j
  rw [Nat.pow_add]
  simp only [Nat.testBit_xor, Nat.testBit_mul_two_pow]
  by_cases hj : p ≤ j <;> simp [hj]
theorem Turned.differs {b c : List Nat} {p bits : Nat} (hb : Bs b) (h : Turned b c p bits 32) (hp : p < 8 * b.length) (h0 : bits ≠ 0) (h1 : bits < 4294967296) : sum b ≠ sum c := by
  obtain ⟨hl, hc, hv⟩ := h
  rw [sum_xor hb, sum_xor hc]
  intro e
  have e2 := congrArg (· ^^^ 4294967295) e
  simp only [Nat.xor_assoc, Nat.xor_self, Nat.xor_zero] at e2
  rw [run_val, run_val, hl, hv, Nat.mod_eq_of_lt (by simpa using h1), ← Nat.xor_assoc, steps_xor _ (4294967295 ^^^ val b)] at e2
  have e3 : steps (8 * b.length) (bits * 2 ^ p) = 0 := by
    have e4 := congrArg (steps (8 * b.length) (4294967295 ^^^ val b) ^^^ ·) e2
    simp only [← Nat.xor_assoc, Nat.xor_self, Nat.zero_xor] at e4
    exact e4.symm
  rw [show 8 * b.length = p + (8 * b.length - p) by omega, steps_add, steps_pow] at e3
  exact steps_ne _ h0 h1 e3
theorem sum_123 : sum [49, 50, 51, 52, 53, 54, 55, 56, 57] = 3421780262 := by decide +kernel
theorem sum_nil : sum [] = 0 := by decide +kernel
end Crc
end Go.Proofs.Ytaoaegkfejlgkaa
