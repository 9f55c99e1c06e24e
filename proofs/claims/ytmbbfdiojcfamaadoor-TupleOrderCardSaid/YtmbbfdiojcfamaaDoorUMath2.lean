/-
  Keys in mathematics: the order of keys is that of their bytes; the least text behind all that begin with one. No program here.
-/
import Derived.Test.YtmbbfdiojcfamaaDoorUMath
namespace Go.Proofs.YtmbbfdiojcfamaaDoor.Tup
abbrev cmp := Lib.compareBytes
theorem cmp_cons (a b : UInt8) (x y : List UInt8) : cmp (a :: x) (b :: y) = if a < b then -1 else if b < a then 1 else cmp x y := rfl
theorem cmp_nil_cons (b : UInt8) (y : List UInt8) : cmp [] (b :: y) = -1 := rfl
theorem cmp_cons_nil (b : UInt8) (y : List UInt8) : cmp (b :: y) [] = 1 := rfl
theorem lt_irr (a : UInt8) : ¬ a < a := UInt8.lt_irrefl a
theorem cmp_same (a : UInt8) (x y : List UInt8) : cmp (a :: x) (a :: y) = cmp x y := by rw [cmp_cons, if_neg (lt_irr a), if_neg (lt_irr a)]
theorem cmp_self : ∀ x : List UInt8, cmp x x = 0
  | [] => rfl
  | a :: x => by rw [cmp_same, cmp_self x]
theorem u8_tri (a b : UInt8) : a < b ∨ a = b ∨ b < a := by
  rcases Nat.lt_trichotomy a.toNat b.toNat with h | h | h
  · exact .inl (UInt8.lt_iff_toNat_lt.2 h)
  · exact .inr (.inl (UInt8.toNat_inj.1 h))
  · exact .inr (.inr (UInt8.lt_iff_toNat_lt.2 h))
theorem u8_asymm {a b : UInt8} (h : a < b) : ¬ b < a := fun k => by
  have := UInt8.lt_iff_toNat_lt.1 h
  have := UInt8.lt_iff_toNat_lt.1 k
  omega
theorem cmp_lt {a b : UInt8} (h : a < b) (x y : List UInt8) : cmp (a :: x) (b :: y) = -1 := by rw [cmp_cons, if_pos h]
theorem cmp_gt {a b : UInt8} (h : b < a) (x y : List UInt8) : cmp (a :: x) (b :: y) = 1 := by rw [cmp_cons, if_neg (u8_asymm h), if_pos h]
theorem cmp_range : ∀ x y : List UInt8, cmp x y = -1 ∨ cmp x y = 0 ∨ cmp x y = 1
  | [], [] => .inr (.inl rfl)
  | [], _ :: _ => .inl rfl
  | _ :: _, [] => .inr (.inr rfl)
  | a :: x, b :: y => by
    rcases u8_tri a b with h | h | h
    · exact .inl (cmp_lt h x y)
    · subst h; rw [cmp_same]; exact cmp_range x y
    · exact .inr (.inr (cmp_gt h x y))
theorem cmp_neg : ∀ x y : List UInt8, cmp y x = - cmp x y
  | [], [] => rfl
  | [], _ :: _ => rfl
  | _ :: _, [] => rfl
  | a :: x, b :: y => by
    rcases u8_tri a b with h | h | h
    · rw [cmp_lt h, cmp_gt h]; rfl
    · subst h; rw [cmp_same, cmp_same]; exact cmp_neg x y
    · rw [cmp_gt h, cmp_lt h]
theorem cmp_zero : ∀ x y : List UInt8, cmp x y = 0 → x = y
  | [], [], _ => rfl
  | [], _ :: _, h => by cases h
  | _ :: _, [], h => by cases h
  | a :: x, b :: y, h => by
    rcases u8_tri a b with k | k | k
    · rw [cmp_lt k] at h; cases h
    · subst k; rw [cmp_same] at h; rw [cmp_zero x y h]
    · rw [cmp_gt k] at h; cases h
/-- The model's order of texts. -/
theorem less_cmp : ∀ x y : List UInt8, Op.bytesLess x y = decide (cmp x y < 0)
  | [], [] => rfl
  | [], _ :: _ => rfl
  | _ :: _, [] => rfl
  | a :: x, b :: y => by
    have ih := less_cmp x y
    show (decide (a < b) || (a == b && Op.bytesLess x y)) = _
    rcases u8_tri a b with k | k | k
    · rw [cmp_lt k, decide_eq_true k]; rfl
    · subst k
      rw [cmp_same, ih, decide_eq_false (lt_irr a)]
      simp
    · rw [cmp_gt k, decide_eq_false (u8_asymm k)]
      have : (a == b) = false := by rw [beq_eq_false_iff_ne]; rintro rfl; exact lt_irr a k
      rw [this]
      rfl
theorem cmp_same_list (r r' : List UInt8) : ∀ x : List UInt8, cmp (x ++ r) (x ++ r') = cmp r r'
  | [] => rfl
  | a :: x => by rw [List.cons_append, List.cons_append, cmp_same, cmp_same_list r r' x]
/-- Numbers' bytes. -/
theorem ofNat_lt (u v : Nat) : UInt8.ofNat u < UInt8.ofNat v ↔ u % 256 < v % 256 := by
  rw [UInt8.lt_iff_toNat_lt]
  simp only [UInt8.toNat_ofNat']
theorem cmp_be (r r' : List UInt8) : ∀ (k u v : Nat), cmp (be k u ++ r) (be k v ++ r') = if u % 256 ^ k < v % 256 ^ k then -1 else if v % 256 ^ k < u % 256 ^ k then 1 else cmp r r'
  | 0, u, v => by simp [be, Nat.mod_one]
  | k + 1, u, v => by
    have ih := cmp_be r r' k u v
    rw [be, be, List.cons_append, List.cons_append]
    have hu : u % 256 ^ (k + 1) = u % 256 ^ k + 256 ^ k * (u / 256 ^ k % 256) := by rw [Nat.pow_succ, Nat.mod_mul]
    have hv : v % 256 ^ (k + 1) = v % 256 ^ k + 256 ^ k * (v / 256 ^ k % 256) := by rw [Nat.pow_succ, Nat.mod_mul]
    rw [hu, hv]
    have hpos : 0 < 256 ^ k := Nat.pos_of_ne_zero (by simp)
    have lu := Nat.mod_lt u hpos
    have lv := Nat.mod_lt v hpos
    generalize hx : u / 256 ^ k = x at *
    generalize hy : v / 256 ^ k = y at *
    generalize u % 256 ^ k = a at *
    generalize v % 256 ^ k = b at *
    generalize 256 ^ k = B at *
    rcases Nat.lt_trichotomy (x % 256) (y % 256) with h | h | h
    · have h1 : UInt8.ofNat x < UInt8.ofNat y := (ofNat_lt _ _).2 h
      have hm : B * (x % 256 + 1) ≤ B * (y % 256) := Nat.mul_le_mul_left _ h
      rw [Nat.mul_add] at hm
      rw [cmp_lt h1, if_pos (by omega)]
    · have h1 : UInt8.ofNat x = UInt8.ofNat y := by apply UInt8.toNat_inj.1; simp only [UInt8.toNat_ofNat']; exact h
      rw [h1, cmp_same, ih, h]
      generalize B * (y % 256) = D
      have e1 : (a + D < b + D) = (a < b) := propext ⟨fun _ => by omega, fun _ => by omega⟩
      have e2 : (b + D < a + D) = (b < a) := propext ⟨fun _ => by omega, fun _ => by omega⟩
      simp only [e1, e2]
    · have h1 : UInt8.ofNat y < UInt8.ofNat x := (ofNat_lt _ _).2 h
      have hm : B * (y % 256 + 1) ≤ B * (x % 256) := Nat.mul_le_mul_left _ h
      rw [Nat.mul_add] at hm
      rw [cmp_gt h1, if_neg (by omega), if_pos (by omega)]
/-- Texts' bytes. -/
theorem u8_pos {a : UInt8} (h : a ≠ 0) : (0 : UInt8) < a := by
  rw [UInt8.lt_iff_toNat_lt]
  have : a.toNat ≠ 0 := fun e => h (UInt8.toNat_inj.1 e)
  show 0 < _
  omega
theorem cmp_esc (r r' : List UInt8) : ∀ t u : List UInt8, cmp (esc0 t ++ 0 :: 0 :: r) (esc0 u ++ 0 :: 0 :: r') = if cmp t u ≠ 0 then cmp t u else cmp r r'
  | [], [] => by
    show cmp (0 :: 0 :: r) (0 :: 0 :: r') = _
    rw [cmp_same, cmp_same, if_neg (by simp [cmp_self])]
  | [], b :: u => by
    rw [cmp_nil_cons, if_pos (by decide), esc0_cons, esc1]
    show cmp (0 :: 0 :: r) _ = _
    by_cases h : b = 0
    · rw [if_pos h]
      show cmp (0 :: 0 :: r) (0 :: 255 :: (esc0 u ++ 0 :: 0 :: r')) = _
      rw [cmp_same, cmp_lt (by decide)]
    · rw [if_neg h]
      exact cmp_lt (u8_pos h) _ _
  | a :: t, [] => by
    rw [cmp_cons_nil, if_pos (by decide), esc0_cons, esc1]
    show cmp _ (0 :: 0 :: r') = _
    by_cases h : a = 0
    · rw [if_pos h]
      show cmp (0 :: 255 :: (esc0 t ++ 0 :: 0 :: r)) (0 :: 0 :: r') = _
      rw [cmp_same, cmp_gt (by decide)]
    · rw [if_neg h]
      exact cmp_gt (u8_pos h) _ _
  | a :: t, b :: u => by
    have ih := cmp_esc r r' t u
    rw [esc0_cons, esc0_cons, esc1, esc1]
    by_cases ha : a = 0
    · subst ha
      by_cases hb : b = 0
      · subst hb
        rw [if_pos rfl, cmp_same]
        show cmp (0 :: 255 :: (esc0 t ++ 0 :: 0 :: r)) (0 :: 255 :: (esc0 u ++ 0 :: 0 :: r')) = _
        rw [cmp_same, cmp_same, ih]
      · rw [if_pos rfl, if_neg hb, cmp_lt (u8_pos hb), if_pos (by decide)]
        exact cmp_lt (u8_pos hb) _ _
    · by_cases hb : b = 0
      · subst hb
        rw [if_neg ha, if_pos rfl, cmp_gt (u8_pos ha), if_pos (by decide)]
        exact cmp_gt (u8_pos ha) _ _
      · rw [if_neg ha, if_neg hb]
        show cmp (a :: (esc0 t ++ 0 :: 0 :: r)) (b :: (esc0 u ++ 0 :: 0 :: r')) = _
        rcases u8_tri a b with k | k | k
        · rw [cmp_lt k, cmp_lt k, if_pos (by decide)]
        · subst k; rw [cmp_same, cmp_same, ih]
        · rw [cmp_gt k, cmp_gt k, if_pos (by decide)]
/-- The order of parts, and of keys. -/
def pcmp (p q : Pt) : Int := if p.num = true then (if q.num = true then Lib.compareInt p.n q.n else 1) else if q.num = true then -1 else cmp p.t q.t
def kcmp : List Pt → List Pt → Int
  | [], [] => 0
  | [], _ :: _ => -1
  | _ :: _, [] => 1
  | p :: l, q :: m => if pcmp p q ≠ 0 then pcmp p q else kcmp l m
theorem kcmp_cons (p q : Pt) (l m : List Pt) : kcmp (p :: l) (q :: m) = if pcmp p q ≠ 0 then pcmp p q else kcmp l m := rfl
theorem cmp_kb (p q : Pt) (hp : p.ok) (hq : q.ok) (r r' : List UInt8) : cmp (kb p ++ r) (kb q ++ r') = if pcmp p q ≠ 0 then pcmp p q else cmp r r' := by
  obtain ⟨p1, p2⟩ := hp
  obtain ⟨q1, q2⟩ := hq
  unfold kb pcmp
  cases p.num <;> cases q.num <;> simp only [Bool.false_eq_true, if_true, if_false, List.cons_append, List.append_assoc]
  · show cmp (1 :: (esc0 p.t ++ 0 :: 0 :: r)) (1 :: (esc0 q.t ++ 0 :: 0 :: r')) = _
    rw [cmp_same, cmp_esc]
  · rw [if_pos (by decide)]
    exact cmp_lt (by decide) _ _
  · rw [if_pos (by decide)]
    exact cmp_gt (by decide) _ _
  · rw [cmp_same, cmp_be, Nat.mod_eq_of_lt (by omega), Nat.mod_eq_of_lt (by omega)]
    unfold Lib.compareInt
    by_cases h1 : p.n < q.n
    · rw [if_pos (by omega), if_pos h1, if_pos (by decide)]
    · rw [if_neg (by omega), if_neg h1]
      by_cases h2 : p.n > q.n
      · rw [if_pos (by omega), if_pos h2, if_pos (by decide)]
      · rw [if_neg (by omega), if_neg h2, if_neg (by decide)]
theorem kcmp_key : ∀ l m : List Pt, (∀ p ∈ l, p.ok) → (∀ p ∈ m, p.ok) → cmp (key l) (key m) = kcmp l m
  | [], [], _, _ => rfl
  | [], q :: m, _, _ => by
    rw [key_nil, key_cons]
    cases hk : kb q ++ key m with
    | nil => exact absurd (List.append_eq_nil_iff.1 hk).1 (kb_ne q)
    | cons b x => rfl
  | p :: l, [], _, _ => by
    rw [key_nil, key_cons]
    cases hk : kb p ++ key l with
    | nil => exact absurd (List.append_eq_nil_iff.1 hk).1 (kb_ne p)
    | cons b x => rfl
  | p :: l, q :: m, hl, hm => by
    rw [key_cons, key_cons, cmp_kb p q (hl p (by simp)) (hm q (by simp)), kcmp_cons, kcmp_key l m (fun x hx => hl x (by simp [hx])) (fun x hx => hm x (by simp [hx]))]
theorem kcmp_range (l m : List Pt) (hl : ∀ p ∈ l, p.ok) (hm : ∀ p ∈ m, p.ok) : kcmp l m = -1 ∨ kcmp l m = 0 ∨ kcmp l m = 1 := by
  rw [← kcmp_key l m hl hm]; exact cmp_range _ _
theorem kcmp_neg (l m : List Pt) (hl : ∀ p ∈ l, p.ok) (hm : ∀ p ∈ m, p.ok) : kcmp m l = - kcmp l m := by
  rw [← kcmp_key l m hl hm, ← kcmp_key m l hm hl]; exact cmp_neg _ _
theorem kcmp_zero (l m : List Pt) (hl : ∀ p ∈ l, p.ok) (hm : ∀ p ∈ m, p.ok) (h : kcmp l m = 0) : key l = key m := by
  rw [← kcmp_key l m hl hm] at h; exact cmp_zero _ _ h
theorem kcmp_same (l m : List Pt) (hl : ∀ p ∈ l, p.ok) (hm : ∀ p ∈ m, p.ok) (h : key l = key m) : kcmp l m = 0 := by
  rw [← kcmp_key l m hl hm, h]; exact cmp_self _
/-- A key's bytes begin with another one's just if its parts do. -/
theorem begins_iff (l m : List Pt) (hl : ∀ p ∈ l, p.ok) (hm : ∀ p ∈ m, p.ok) : (key m).isPrefixOf (key l) = (decide (m.length ≤ l.length) && decide (kcmp (l.take (min l.length m.length)) m = 0)) := by
  rw [Bool.eq_iff_iff, List.isPrefixOf_iff_prefix, Bool.and_eq_true, decide_eq_true_iff, decide_eq_true_iff]
  constructor
  · rintro ⟨r, hr⟩
    obtain ⟨l', h1, _, _⟩ := key_pre m l r hl hm hr.symm
    have hlen := congrArg List.length h1
    simp only [List.length_map, List.length_append] at hlen
    refine ⟨by omega, ?_⟩
    rw [Nat.min_eq_right (by omega)]
    refine kcmp_same _ _ (fun p hp => hl p (List.mem_of_mem_take hp)) hm ?_
    rw [← key_clean, ← key_clean m, List.map_take, h1]
    congr 1
    rw [List.take_append_of_le_length (by simp), List.take_of_length_le (by simp)]
  · rintro ⟨h1, h2⟩
    rw [Nat.min_eq_right h1] at h2
    have := kcmp_zero _ _ (fun p hp => hl p (List.mem_of_mem_take hp)) hm h2
    refine ⟨key (l.drop m.length), ?_⟩
    rw [← this, ← key_append, List.take_append_drop]
/-- The least text behind all that begin with a text. -/
def nxt : List UInt8 → List UInt8
  | [] => []
  | c :: l => if nxt l ≠ [] then c :: nxt l else if c = 255 then [] else [c + 1]
theorem nxt_max : ∀ n : Nat, nxt (List.replicate n 255) = []
  | 0 => rfl
  | n + 1 => by rw [List.replicate_succ, nxt, nxt_max n, if_neg (by simp), if_pos rfl]
theorem nxt_form (p : List UInt8) (c : UInt8) (hc : c ≠ 255) (n : Nat) : nxt (p ++ c :: List.replicate n 255) = p ++ [c + 1] := by
  induction p with
  | nil => rw [List.nil_append, nxt, nxt_max, if_neg (by simp), if_neg hc]; rfl
  | cons x p ih => rw [List.cons_append, nxt, ih, if_pos (by simp)]; rfl
theorem u8_le255 (a : UInt8) : ¬ (255 : UInt8) < a := fun h => by
  have h1 := UInt8.lt_iff_toNat_lt.1 h
  have h2 := a.toNat_lt
  have h3 : (255 : UInt8).toNat = 255 := rfl
  omega
theorem u8_succ {c : UInt8} (hc : c ≠ 255) : (c + 1).toNat = c.toNat + 1 := by
  have h2 := c.toNat_lt
  have : c.toNat ≠ 255 := fun e => hc (UInt8.toNat_inj.1 e)
  rw [UInt8.toNat_add]
  show (c.toNat + 1) % 256 = _
  omega
/-- A text begins with another one just if it lies from that one on, ahead of the next. -/
theorem nxt_spec : ∀ m s : List UInt8, m.isPrefixOf s = (!decide (cmp s m < 0) && (decide (nxt m = []) || decide (cmp s (nxt m) < 0)))
  | [], s => by cases s <;> rfl
  | c :: m, [] => by rw [cmp_nil_cons]; rfl
  | c :: m, d :: s => by
    have ih := nxt_spec m s
    rw [nxt]
    show ((c == d) && m.isPrefixOf s) = _
    rcases u8_tri d c with k | k | k
    · rw [cmp_lt k]
      have : (c == d) = false := by rw [beq_eq_false_iff_ne]; rintro rfl; exact lt_irr _ k
      rw [this]
      rfl
    · subst k
      rw [cmp_same, ih, beq_self_eq_true, Bool.true_and]
      by_cases hn : nxt m = []
      · rw [hn, if_neg (by simp)]
        by_cases h5 : d = 255
        · rw [if_pos h5]
          rfl
        · rw [if_neg h5]
          have : d < d + 1 := by rw [UInt8.lt_iff_toNat_lt, u8_succ h5]; omega
          rw [cmp_lt this]
          simp
      · rw [if_pos hn, cmp_same]
        simp [hn]
    · rw [cmp_gt k]
      have : (c == d) = false := by rw [beq_eq_false_iff_ne]; rintro rfl; exact lt_irr _ k
      rw [this]
      by_cases hn : nxt m = []
      · rw [hn, if_neg (by simp)]
        by_cases h5 : c = 255
        · exact absurd (h5 ▸ k) (u8_le255 d)
        · rw [if_neg h5]
          have hk := UInt8.lt_iff_toNat_lt.1 k
          have h1 : ¬ cmp (d :: s) [c + 1] < 0 := by
            rcases u8_tri d (c + 1) with q | q | q
            · have := UInt8.lt_iff_toNat_lt.1 q
              rw [u8_succ h5] at this
              omega
            · rw [q, cmp_same]
              cases s with
              | nil => decide
              | cons x s => rw [cmp_cons_nil]; decide
            · rw [cmp_gt q]; decide
          simp [h1]
      · rw [if_pos hn, cmp_gt k]
        simp
theorem nxt_gt : ∀ m : List UInt8, nxt m ≠ [] → cmp (nxt m) m = 1
  | [], h => absurd rfl h
  | c :: m, h => by
    rw [nxt] at h ⊢
    by_cases hn : nxt m ≠ []
    · rw [if_pos hn, cmp_same]; exact nxt_gt m hn
    · rw [if_neg hn] at h ⊢
      by_cases h5 : c = 255
      · rw [if_pos h5] at h; exact absurd rfl h
      · rw [if_neg h5]
        exact cmp_gt (by rw [UInt8.lt_iff_toNat_lt, u8_succ h5]; omega) _ _
end Go.Proofs.YtmbbfdiojcfamaaDoor.Tup
