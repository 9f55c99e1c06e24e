/-
  The plain mathematics of SHA-256 in natural numbers (rotations, the schedule, the rounds, the blocks, the padding), with the bounds and the splitting laws that the walks use. No program stands in it.
-/
namespace Go.Proofs.YtfkkpbfoipfekaaDoor
namespace Sha

def M : Nat := 4294967296
/-- A number of 32 bits turned right by k. -/
def rot (k x : Nat) : Nat := x / 2 ^ k + x % 2 ^ k * 2 ^ (32 - k)
def mix (i j l x : Nat) : Nat := rot i x ^^^ rot j x ^^^ rot l x
def mixShift (i j l x : Nat) : Nat := rot i x ^^^ rot j x ^^^ x / 2 ^ l
def ch (e f g : Nat) : Nat := (e &&& f) ^^^ ((4294967295 - e) &&& g)
def maj (a b c : Nat) : Nat := (a &&& b) ^^^ (a &&& c) ^^^ (b &&& c)

structure St where
  a : Nat
  b : Nat
  c : Nat
  d : Nat
  e : Nat
  f : Nat
  g : Nat
  h : Nat

def St.toList (s : St) : List Nat := [s.a, s.b, s.c, s.d, s.e, s.f, s.g, s.h]
def St.ok (s : St) : Prop := s.a < M ∧ s.b < M ∧ s.c < M ∧ s.d < M ∧ s.e < M ∧ s.f < M ∧ s.g < M ∧ s.h < M

def t1 (k w : Nat) (s : St) : Nat := (s.h + mix 6 11 25 s.e + ch s.e s.f s.g + k + w) % M
def t2 (s : St) : Nat := (mix 2 13 22 s.a + maj s.a s.b s.c) % M
def round (k w : Nat) (s : St) : St := ⟨(t1 k w s + t2 s) % M, s.a, s.b, s.c, (s.d + t1 k w s) % M, s.e, s.f, s.g⟩

/-- Four bytes as a number. -/
def word (l : List Nat) (i : Nat) : Nat := l.getD i 0 * 16777216 + l.getD (i + 1) 0 * 65536 + l.getD (i + 2) 0 * 256 + l.getD (i + 3) 0
/-- The next number of the schedule behind those in ws. -/
def next (ws : List Nat) : Nat :=
  (mixShift 17 19 10 (ws.getD (ws.length - 2) 0) + ws.getD (ws.length - 7) 0 + mixShift 7 18 3 (ws.getD (ws.length - 15) 0) + ws.getD (ws.length - 16) 0) % M
/-- The first n numbers of a block's schedule. -/
def sched (l : List Nat) : Nat → List Nat
  | 0 => []
  | n + 1 => sched l n ++ [if n < 16 then word l (4 * n) else next (sched l n)]

def rounds (ks ws : List Nat) (s : St) : Nat → St
  | 0 => s
  | n + 1 => round (ks.getD n 0) (ws.getD n 0) (rounds ks ws s n)

def K : List Nat := [
  0x428a2f98, 0x71374491, 0xb5c0fbcf, 0xe9b5dba5, 0x3956c25b, 0x59f111f1, 0x923f82a4, 0xab1c5ed5,
  0xd807aa98, 0x12835b01, 0x243185be, 0x550c7dc3, 0x72be5d74, 0x80deb1fe, 0x9bdc06a7, 0xc19bf174,
  0xe49b69c1, 0xefbe4786, 0x0fc19dc6, 0x240ca1cc, 0x2de92c6f, 0x4a7484aa, 0x5cb0a9dc, 0x76f988da,
  0x983e5152, 0xa831c66d, 0xb00327c8, 0xbf597fc7, 0xc6e00bf3, 0xd5a79147, 0x06ca6351, 0x14292967,
  0x27b70a85, 0x2e1b2138, 0x4d2c6dfc, 0x53380d13, 0x650a7354, 0x766a0abb, 0x81c2c92e, 0x92722c85,
  0xa2bfe8a1, 0xa81a664b, 0xc24b8b70, 0xc76c51a3, 0xd192e819, 0xd6990624, 0xf40e3585, 0x106aa070,
  0x19a4c116, 0x1e376c08, 0x2748774c, 0x34b0bcb5, 0x391c0cb3, 0x4ed8aa4a, 0x5b9cca4f, 0x682e6ff3,
  0x748f82ee, 0x78a5636f, 0x84c87814, 0x8cc70208, 0x90befffa, 0xa4506ceb, 0xbef9a3f7, 0xc67178f2]
def init : St := ⟨0x6a09e667, 0xbb67ae85, 0x3c6ef372, 0xa54ff53a, 0x510e527f, 0x9b05688c, 0x1f83d9ab, 0x5be0cd19⟩

def add (s t : St) : St := ⟨(s.a + t.a) % M, (s.b + t.b) % M, (s.c + t.c) % M, (s.d + t.d) % M, (s.e + t.e) % M, (s.f + t.f) % M, (s.g + t.g) % M, (s.h + t.h) % M⟩
def compress (s : St) (l : List Nat) : St := add s (rounds K (sched l 64) s 64)

/-- The state behind the first n blocks of m. -/
def procN (m : List Nat) : Nat → St
  | 0 => init
  | n + 1 => compress (procN m n) ((m.drop (64 * n)).take 64)
def proc (m : List Nat) : St := procN m (m.length / 64)

def zerosFor (n : Nat) : Nat := (119 - n % 64) % 64
def be64 (n : Nat) : List Nat := [n / 2 ^ 56 % 256, n / 2 ^ 48 % 256, n / 2 ^ 40 % 256, n / 2 ^ 32 % 256, n / 2 ^ 24 % 256, n / 2 ^ 16 % 256, n / 2 ^ 8 % 256, n % 256]
def pad (n : Nat) : List Nat := 128 :: List.replicate (zerosFor n) 0 ++ be64 (8 * n)
def be32 (x : Nat) : List Nat := [x / 16777216 % 256, x / 65536 % 256, x / 256 % 256, x % 256]
def bytes (s : St) : List Nat := s.toList.flatMap be32
def sum (m : List Nat) : List Nat := bytes (proc (m ++ pad m.length))

def abc : List Nat := [97, 98, 99]
set_option maxRecDepth 100000 in
theorem sum_abc : sum abc = [186, 120, 22, 191, 143, 1, 207, 234, 65, 65, 64, 222, 93, 174, 34, 35, 176, 3, 97, 163, 150, 23, 122, 156, 180, 16, 255, 97, 242, 0, 21, 173] := by
  decide +kernel

/- Bounds. -/
theorem xor_lt {a b : Nat} (ha : a < M) (hb : b < M) : a ^^^ b < M := Nat.xor_lt_two_pow (n := 32) ha hb
theorem and_lt {a b : Nat} (ha : a < M) : a &&& b < M := Nat.lt_of_le_of_lt Nat.and_le_left ha
theorem div_lt {x : Nat} (k : Nat) (hx : x < M) : x / 2 ^ k < M := Nat.lt_of_le_of_lt (Nat.div_le_self _ _) hx
theorem modM (x : Nat) : x % M < M := Nat.mod_lt _ (by decide)
theorem pow_split {k : Nat} (hk : k ≤ 32) : 2 ^ k * 2 ^ (32 - k) = M := by
  rw [← Nat.pow_add, show k + (32 - k) = 32 by omega]; rfl
theorem div_pow_lt {k x : Nat} (hk : k ≤ 32) (hx : x < M) : x / 2 ^ k < 2 ^ (32 - k) := by
  rw [Nat.div_lt_iff_lt_mul (Nat.two_pow_pos k), Nat.mul_comm, pow_split hk]; exact hx
theorem mod_mul {k : Nat} (hk : k ≤ 32) (x : Nat) : x * 2 ^ (32 - k) % M = x % 2 ^ k * 2 ^ (32 - k) := by
  rw [← pow_split hk, Nat.mul_mod_mul_right]
theorem rot_or {k x : Nat} (hk : k ≤ 32) (hx : x < M) : (x * 2 ^ (32 - k) % M) ||| (x / 2 ^ k) = rot k x := by
  rw [mod_mul hk, ← Nat.shiftLeft_eq, ← Nat.shiftLeft_add_eq_or_of_lt (div_pow_lt hk hx), Nat.shiftLeft_eq, Nat.add_comm]; rfl
theorem rot_lt {k x : Nat} (hk : k ≤ 32) (hx : x < M) : rot k x < M := by
  rw [← rot_or hk hx]
  exact Nat.or_lt_two_pow (n := 32) (modM _) (div_lt k hx)
theorem mix_lt {i j l x : Nat} (hi : i ≤ 32) (hj : j ≤ 32) (hl : l ≤ 32) (hx : x < M) : mix i j l x < M := xor_lt (xor_lt (rot_lt hi hx) (rot_lt hj hx)) (rot_lt hl hx)
theorem mixShift_lt {i j l x : Nat} (hi : i ≤ 32) (hj : j ≤ 32) (hx : x < M) : mixShift i j l x < M := xor_lt (xor_lt (rot_lt hi hx) (rot_lt hj hx)) (div_lt l hx)
theorem ch_lt {e f g : Nat} (he : e < M) (hg : g < M) : ch e f g < M := xor_lt (and_lt he) (Nat.lt_of_le_of_lt Nat.and_le_right hg)
theorem maj_lt {a b c : Nat} (ha : a < M) (hb : b < M) : maj a b c < M := xor_lt (xor_lt (and_lt ha) (and_lt ha)) (and_lt hb)
theorem round_ok {k w : Nat} {s : St} (h : s.ok) : (round k w s).ok := ⟨modM _, h.1, h.2.1, h.2.2.1, modM _, h.2.2.2.2.1, h.2.2.2.2.2.1, h.2.2.2.2.2.2.1⟩
theorem rounds_ok {ks ws : List Nat} {s : St} (h : s.ok) (n : Nat) : (rounds ks ws s n).ok := by
  induction n with
  | zero => exact h
  | succ n ih => exact round_ok ih
theorem add_ok (s t : St) : (add s t).ok := ⟨modM _, modM _, modM _, modM _, modM _, modM _, modM _, modM _⟩
theorem compress_ok (s : St) (l : List Nat) : (compress s l).ok := add_ok _ _
theorem init_ok : init.ok := by unfold St.ok; decide
theorem procN_ok (m : List Nat) (n : Nat) : (procN m n).ok := by
  cases n with
  | zero => exact init_ok
  | succ n => exact compress_ok _ _
theorem proc_ok (m : List Nat) : (proc m).ok := procN_ok _ _
theorem sched_length (l : List Nat) (n : Nat) : (sched l n).length = n := by
  induction n with
  | zero => rfl
  | succ n ih => simp [sched, ih]
/-- Each byte of a list is less than 256. -/
def Bs (l : List Nat) : Prop := ∀ x ∈ l, x < 256
theorem Bs.getD {l : List Nat} (h : Bs l) (i : Nat) : l.getD i 0 < 256 := by
  rw [List.getD_eq_getElem?_getD]
  cases hi : l[i]? with
  | none => simp
  | some v => exact h v (List.mem_of_getElem? hi)
theorem word_lt {l : List Nat} (h : Bs l) (i : Nat) : word l i < M := by
  have h0 := h.getD i; have h1 := h.getD (i + 1); have h2 := h.getD (i + 2); have h3 := h.getD (i + 3)
  unfold word M; omega
theorem sched_lt {l : List Nat} (h : Bs l) (n : Nat) : ∀ x ∈ sched l n, x < M := by
  induction n with
  | zero => intro x hx; cases hx
  | succ n ih =>
    intro x hx
    rw [sched, List.mem_append] at hx
    rcases hx with hx | hx
    · exact ih x hx
    · rw [List.mem_singleton] at hx
      subst hx
      split
      · exact word_lt h _
      · exact modM _
theorem getD_lt {l : List Nat} (h : ∀ x ∈ l, x < M) (i : Nat) : l.getD i 0 < M := by
  rw [List.getD_eq_getElem?_getD]
  cases hi : l[i]? with
  | none => simp [M]
  | some v => exact h v (List.mem_of_getElem? hi)
theorem sched_getD {l : List Nat} (h : Bs l) (n i : Nat) : (sched l n).getD i 0 < M := getD_lt (sched_lt h n) i
theorem K_lt : ∀ x ∈ K, x < M := by decide
theorem K_getD (i : Nat) : K.getD i 0 < M := getD_lt K_lt i
end Sha
end Go.Proofs.YtfkkpbfoipfekaaDoor
