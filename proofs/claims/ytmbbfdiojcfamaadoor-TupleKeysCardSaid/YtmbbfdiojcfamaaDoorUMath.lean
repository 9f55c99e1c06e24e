/-
  Keys in mathematics: their bytes, what is read from bytes, their order, the least text behind all that begin with one. No program here.
-/
import Derived.Lib.Bytealg
import Derived.Lib.Strings
import Derived.Lib.Small
import GoSem.Op.String
namespace Go.Proofs.YtmbbfdiojcfamaaDoor.Tup
/-- A part of a key. -/
structure Pt where
  num : Bool
  n : Int
  t : List UInt8
def Pt.ok (p : Pt) : Prop := -9223372036854775808 ≤ p.n ∧ p.n ≤ 9223372036854775807
/-- A part without what plays no part. -/
def Pt.clean (p : Pt) : Pt := if p.num = true then ⟨true, p.n, []⟩ else ⟨false, 0, p.t⟩
def esc1 (b : UInt8) : List UInt8 := if b = 0 then [0, 255] else [b]
def esc0 (l : List UInt8) : List UInt8 := l.flatMap esc1
theorem esc0_cons (b : UInt8) (l : List UInt8) : esc0 (b :: l) = esc1 b ++ esc0 l := rfl
theorem esc0_append (l m : List UInt8) : esc0 (l ++ m) = esc0 l ++ esc0 m := by simp [esc0]
theorem esc0_len : ∀ l : List UInt8, (esc0 l).length ≤ 2 * l.length
  | [] => Nat.le_refl _
  | b :: l => by
    have := esc0_len l
    rw [esc0_cons, List.length_append, List.length_cons]
    have : (esc1 b).length ≤ 2 := by unfold esc1; split <;> simp
    omega
theorem esc0_none : ∀ l : List UInt8, (0 : UInt8) ∉ l → esc0 l = l
  | [], _ => rfl
  | b :: l, h => by
    simp only [List.mem_cons, not_or] at h
    rw [esc0_cons, esc0_none l h.2, esc1, if_neg (fun e => h.1 e.symm)]
    rfl
/-- k bytes of a number, the highest first. -/
def be : Nat → Nat → List UInt8
  | 0, _ => []
  | k + 1, u => UInt8.ofNat (u / 256 ^ k) :: be k u
theorem be_length : ∀ k u, (be k u).length = k
  | 0, _ => rfl
  | k + 1, u => by rw [be, List.length_cons, be_length k u]
/-- The number that bytes are. -/
def val : List UInt8 → Nat
  | [] => 0
  | b :: l => b.toNat * 256 ^ l.length + val l
theorem val_lt : ∀ l : List UInt8, val l < 256 ^ l.length
  | [] => by simp [val]
  | b :: l => by
    have h := val_lt l
    have hb := b.toNat_lt
    have : (b.toNat + 1) * 256 ^ l.length ≤ 256 * 256 ^ l.length := Nat.mul_le_mul_right _ (by omega)
    rw [val, List.length_cons, Nat.pow_succ, Nat.mul_comm (256 ^ l.length) 256]
    rw [Nat.add_mul] at this
    omega
theorem val_snoc (b : UInt8) : ∀ l : List UInt8, val (l ++ [b]) = val l * 256 + b.toNat
  | [] => by simp [val]
  | c :: l => by
    have h := val_snoc b l
    rw [List.cons_append, val, h, val, List.length_append, List.length_singleton, Nat.pow_succ, Nat.add_mul, Nat.mul_assoc]
    omega
theorem be_congr : ∀ (k u v : Nat), u % 256 ^ k = v % 256 ^ k → be k u = be k v
  | 0, _, _, _ => rfl
  | k + 1, u, v, h => by
    have e : ∀ x : Nat, x / 256 ^ k % 256 = x % 256 ^ (k + 1) / 256 ^ k := fun x => by
      rw [Nat.pow_succ, Nat.mod_mul_right_div_self]
    have hm : u % 256 ^ k = v % 256 ^ k := by
      have h1 : ∀ x : Nat, x % 256 ^ k = x % 256 ^ (k + 1) % 256 ^ k := fun x => by rw [Nat.pow_succ, Nat.mod_mul_right_mod]
      rw [h1 u, h1 v, h]
    have hd : UInt8.ofNat (u / 256 ^ k) = UInt8.ofNat (v / 256 ^ k) := by
      have : u / 256 ^ k % 256 = v / 256 ^ k % 256 := by rw [e u, e v, h]
      apply UInt8.toNat_inj.1
      simpa using this
    rw [be, be, hd, be_congr k u v hm]
theorem be_val : ∀ l : List UInt8, be l.length (val l) = l
  | [] => rfl
  | b :: l => by
    have hlt := val_lt l
    have h := be_val l
    have hc : be l.length (b.toNat * 256 ^ l.length + val l) = be l.length (val l) := be_congr _ _ _ (by rw [Nat.add_comm, Nat.add_mul_mod_self_right])
    rw [List.length_cons, val, be, hc, h]
    congr 1
    rw [Nat.add_comm, Nat.add_mul_div_right _ _ (Nat.pos_of_ne_zero (by simp)), Nat.div_eq_of_lt hlt, Nat.zero_add]
    simp
theorem val_be : ∀ (k u : Nat), val (be k u) = u % 256 ^ k
  | 0, u => by simp [be, val, Nat.mod_one]
  | k + 1, u => by
    rw [be, val, be_length, val_be k u, Nat.pow_succ, Nat.mod_mul]
    simp only [UInt8.toNat_ofNat']
    rw [Nat.mul_comm, Nat.add_comm]
theorem be_getD : ∀ (k u i : Nat), i < k → (be k u).getD i 0 = UInt8.ofNat (u / 256 ^ (k - 1 - i))
  | 0, _, _, h => absurd h (Nat.not_lt_zero _)
  | k + 1, u, 0, _ => by simp [be]
  | k + 1, u, i + 1, h => by
    rw [be, List.getD_cons_succ, be_getD k u i (by omega)]
    congr 3
    omega
/-- A part's bytes, a key's. -/
def kb (p : Pt) : List UInt8 := if p.num = true then 2 :: be 8 (p.n + 9223372036854775808).toNat else 1 :: (esc0 p.t ++ [0, 0])
def key (l : List Pt) : List UInt8 := l.flatMap kb
theorem key_nil : key [] = [] := rfl
theorem key_cons (p : Pt) (l : List Pt) : key (p :: l) = kb p ++ key l := rfl
theorem key_append (l m : List Pt) : key (l ++ m) = key l ++ key m := by simp [key]
theorem key_snoc (l : List Pt) (p : Pt) : key (l ++ [p]) = key l ++ kb p := by rw [key_append]; simp [key]
theorem kb_len (p : Pt) : (kb p).length ≤ 2 * p.t.length + 9 := by
  unfold kb
  split
  · rw [List.length_cons, be_length]; omega
  · have := esc0_len p.t
    rw [List.length_cons, List.length_append]
    simp
    omega
theorem kb_ne (p : Pt) : kb p ≠ [] := by unfold kb; split <;> simp
/-- What is read from bytes: a text's, up to its end. -/
def rt : List UInt8 → Option (List UInt8 × List UInt8)
  | [] => none
  | [_] => none
  | c :: d :: r => if c = 0 then (if d = 0 then some ([], r) else if d = 255 then (rt r).map fun x => (0 :: x.1, x.2) else none) else (rt (d :: r)).map fun x => (c :: x.1, x.2)
theorem rt_step (c : UInt8) (s : List UInt8) (h : c ≠ 0) : rt (c :: s) = (rt s).map fun x => (c :: x.1, x.2) := by
  cases s with
  | nil => rfl
  | cons d r => rw [rt, if_neg h]
theorem rt_zero (d : UInt8) (r : List UInt8) : rt (0 :: d :: r) = if d = 0 then some ([], r) else if d = 255 then (rt r).map fun x => (0 :: x.1, x.2) else none := by rw [rt, if_pos rfl]
theorem rt_none : ∀ a : List UInt8, (0 : UInt8) ∉ a → rt a = none
  | [], _ => rfl
  | c :: s, h => by
    simp only [List.mem_cons, not_or] at h
    rw [rt_step c s (fun e => h.1 e.symm), rt_none s h.2]
    rfl
theorem rt_skip (b : List UInt8) : ∀ a : List UInt8, (0 : UInt8) ∉ a → rt (a ++ b) = (rt b).map fun x => (a ++ x.1, x.2)
  | [], _ => by
    show rt b = _
    cases rt b <;> rfl
  | c :: s, h => by
    simp only [List.mem_cons, not_or] at h
    rw [List.cons_append, rt_step c _ (fun e => h.1 e.symm), rt_skip b s h.2]
    cases rt b <;> rfl
theorem rt_esc (r : List UInt8) : ∀ t : List UInt8, rt (esc0 t ++ 0 :: 0 :: r) = some (t, r)
  | [] => by rw [show esc0 [] = [] from rfl, List.nil_append, rt_zero, if_pos rfl]
  | c :: t => by
    have ih := rt_esc r t
    rw [esc0_cons, esc1]
    by_cases h : c = 0
    · rw [if_pos h]
      show rt (0 :: 255 :: (esc0 t ++ 0 :: 0 :: r)) = _
      rw [rt_zero, if_neg (by decide), if_pos rfl, ih, h]
      rfl
    · rw [if_neg h]
      show rt (c :: (esc0 t ++ 0 :: 0 :: r)) = _
      rw [rt_step c _ h, ih]
      rfl
theorem rt_inv : ∀ (s t r : List UInt8), rt s = some (t, r) → s = esc0 t ++ 0 :: 0 :: r
  | [], _, _, h => by cases h
  | [_], _, _, h => by simp [rt] at h
  | c :: d :: s, t, r, h => by
    by_cases hc : c = 0
    · subst hc
      rw [rt_zero] at h
      by_cases hd : d = 0
      · rw [if_pos hd] at h
        injection h with h
        injection h with h1 h2
        subst h1 h2 hd
        rfl
      · rw [if_neg hd] at h
        by_cases h5 : d = 255
        · rw [if_pos h5] at h
          cases hs : rt s with
          | none => rw [hs] at h; cases h
          | some x =>
            obtain ⟨t', r'⟩ := x
            rw [hs] at h
            injection h with h
            injection h with h1 h2
            simp only at h1 h2
            subst h1 h2 h5
            have := rt_inv s t' r' hs
            rw [this, esc0_cons]
            rfl
        · rw [if_neg h5] at h; cases h
    · rw [rt_step c _ hc] at h
      cases hs : rt (d :: s) with
      | none => rw [hs] at h; cases h
      | some x =>
        obtain ⟨t', r'⟩ := x
        rw [hs] at h
        injection h with h
        injection h with h1 h2
        simp only at h1 h2
        subst h1 h2
        have := rt_inv (d :: s) t' r' hs
        rw [this, esc0_cons, esc1, if_neg hc]
        rfl
/-- A part, and what is behind it. -/
def rp : List UInt8 → Option (Pt × List UInt8)
  | [] => none
  | c :: s => if c = 1 then (rt s).map fun x => (⟨false, 0, x.1⟩, x.2) else if c = 2 then (if s.length < 8 then none else some (⟨true, (val (s.take 8) : Nat) - 9223372036854775808, []⟩, s.drop 8)) else none
theorem rp_kb (p : Pt) (hp : p.ok) (r : List UInt8) : rp (kb p ++ r) = some (p.clean, r) := by
  unfold kb Pt.clean
  obtain ⟨h1, h2⟩ := hp
  cases p.num with
  | true =>
    simp only [if_true, List.cons_append]
    have hl := be_length 8 (p.n + 9223372036854775808).toNat
    have ht : (be 8 (p.n + 9223372036854775808).toNat ++ r).take 8 = be 8 (p.n + 9223372036854775808).toNat := by rw [List.take_append_of_le_length (by omega), List.take_of_length_le (by omega)]
    have hd : (be 8 (p.n + 9223372036854775808).toNat ++ r).drop 8 = r := by rw [List.drop_append_of_le_length (by omega), List.drop_of_length_le (by omega)]; rfl
    rw [rp, if_neg (by decide), if_pos rfl, if_neg (by rw [List.length_append, hl]; omega), ht, hd, val_be, Nat.mod_eq_of_lt (by omega)]
    congr 3
    omega
  | false =>
    simp only [Bool.false_eq_true, if_false, List.cons_append, List.append_assoc]
    show rp (1 :: (esc0 p.t ++ 0 :: 0 :: r)) = _
    rw [rp, if_pos rfl, rt_esc]
    rfl
theorem rp_inv (s : List UInt8) (p : Pt) (r : List UInt8) (h : rp s = some (p, r)) : s = kb p ++ r ∧ p.clean = p ∧ p.ok := by
  cases s with
  | nil => cases h
  | cons c s =>
    replace h : (if c = 1 then (rt s).map (fun x => ((⟨false, 0, x.1⟩ : Pt), x.2)) else if c = 2 then (if s.length < 8 then none else some (⟨true, (val (s.take 8) : Nat) - 9223372036854775808, []⟩, s.drop 8)) else none) = some (p, r) := h
    by_cases h1 : c = 1
    · rw [if_pos h1] at h
      cases hs : rt s with
      | none => rw [hs] at h; cases h
      | some x =>
        obtain ⟨t', r'⟩ := x
        rw [hs] at h
        injection h with h
        injection h with h2 h3
        simp only at h2 h3
        subst h2 h3 h1
        have := rt_inv s t' r' hs
        refine ⟨?_, rfl, ⟨by simp only; omega, by simp only; omega⟩⟩
        rw [this, kb]
        simp
    · rw [if_neg h1] at h
      by_cases h2 : c = 2
      · rw [if_pos h2] at h
        by_cases h8 : s.length < 8
        · rw [if_pos h8] at h; cases h
        · rw [if_neg h8] at h
          injection h with h
          injection h with h3 h4
          subst h3 h4 h2
          have hlt := val_lt (s.take 8)
          have hlen : (s.take 8).length = 8 := by rw [List.length_take]; omega
          have hbe := be_val (s.take 8)
          rw [hlen] at hlt hbe
          refine ⟨?_, rfl, ⟨by simp only; omega, by simp only; omega⟩⟩
          unfold kb
          simp only [if_true]
          rw [show ((val (s.take 8) : Int) - 9223372036854775808 + 9223372036854775808).toNat = val (s.take 8) by omega, hbe]
          simp
      · rw [if_neg h2] at h; cases h
theorem kb_clean (p : Pt) : kb p.clean = kb p := by
  unfold Pt.clean kb
  cases p.num <;> rfl
theorem key_clean : ∀ l : List Pt, key (l.map Pt.clean) = key l
  | [] => rfl
  | p :: l => by rw [List.map_cons, key_cons, key_cons, key_clean l, kb_clean]
theorem clean_clean (p : Pt) : p.clean.clean = p.clean := by unfold Pt.clean; cases p.num <;> rfl
theorem clean_ok (p : Pt) (h : p.ok) : p.clean.ok := by
  unfold Pt.clean
  split
  · exact h
  · exact ⟨by simp only; omega, by simp only; omega⟩
/-- Of two keys, if one's bytes go on as the other's, so do its parts. -/
theorem key_pre : ∀ (m l : List Pt) (r : List UInt8), (∀ p ∈ l, p.ok) → (∀ p ∈ m, p.ok) → key l = key m ++ r → ∃ l', l.map Pt.clean = m.map Pt.clean ++ l'.map Pt.clean ∧ key l' = r ∧ (∀ p ∈ l', p.ok)
  | [], l, r, hl, _, h => ⟨l, rfl, h, hl⟩
  | q :: m, [], r, _, _, h => by
    exfalso
    have := kb_ne q
    have h0 := congrArg List.length h
    rw [key_nil, key_cons, List.length_append, List.length_append, List.length_nil] at h0
    have := List.length_pos_iff.2 (kb_ne q)
    omega
  | q :: m, p :: l, r, hl, hm, h => by
    rw [key_cons, key_cons, List.append_assoc] at h
    have e1 := rp_kb p (hl p (by simp)) (key l)
    have e2 := rp_kb q (hm q (by simp)) (key m ++ r)
    rw [h, e2] at e1
    injection e1 with e1
    injection e1 with e3 e4
    obtain ⟨l', h1, h2, h3⟩ := key_pre m l r (fun x hx => hl x (by simp [hx])) (fun x hx => hm x (by simp [hx])) e4.symm
    exact ⟨l', by rw [List.map_cons, List.map_cons, h1, e3]; rfl, h2, h3⟩
theorem key_inj (m l : List Pt) (hl : ∀ p ∈ l, p.ok) (hm : ∀ p ∈ m, p.ok) (h : key l = key m) : l.map Pt.clean = m.map Pt.clean := by
  obtain ⟨l', h1, h2, _⟩ := key_pre m l [] hl hm (by rw [h, List.append_nil])
  cases l' with
  | nil => simpa using h1
  | cons p l' =>
    exfalso
    rw [key_cons] at h2
    exact kb_ne p (List.append_eq_nil_iff.1 h2).1
/-- Bytes behind a key's, of which no part can be read, are no key's. -/
theorem no_key (acc : List Pt) (s : List UInt8) (hs : s ≠ []) (ha : ∀ p ∈ acc, p.ok) (hr : rp s = none) : ¬ ∃ l : List Pt, (∀ p ∈ l, p.ok) ∧ key acc ++ s = key l := by
  rintro ⟨l, hl, h⟩
  obtain ⟨l', _, h2, h3⟩ := key_pre acc l s hl ha h.symm
  cases l' with
  | nil => exact hs h2.symm
  | cons p l' =>
    rw [key_cons] at h2
    rw [← h2, rp_kb p (h3 p (by simp))] at hr
    cases hr
end Go.Proofs.YtmbbfdiojcfamaaDoor.Tup
