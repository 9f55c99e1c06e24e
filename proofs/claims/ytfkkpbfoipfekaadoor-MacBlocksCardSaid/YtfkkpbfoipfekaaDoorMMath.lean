/-
  Layer 2 in plain mathematics: the code of a message under a key (HMAC), and how a key is spread (HKDF); with the document's example.
-/
import Derived.Test.YtfkkpbfoipfekaaDoorMath2
namespace Go.Proofs.YtfkkpbfoipfekaaDoor
namespace Mac
/-- The key itself, or its hash where it is longer than a block. -/
def short (k : List Nat) : List Nat := if 64 < k.length then Sha.sum k else k
/-- Bytes with noughts behind them, 64 in all. -/
def fill64 (l : List Nat) : List Nat := l ++ List.replicate (64 - l.length) 0
def blockOf (k : List Nat) : List Nat := fill64 (short k)
def xorAll (x : Nat) (l : List Nat) : List Nat := l.map (· ^^^ x)
def code (k m : List Nat) : List Nat := Sha.sum (xorAll 92 (blockOf k) ++ Sha.sum (xorAll 54 (blockOf k) ++ m))
/-- The n-th block of what is spread, counted from 1; nothing at 0. -/
def blk (k info : List Nat) : Nat → List Nat
  | 0 => []
  | n + 1 => code k (blk k info n ++ info ++ [n + 1])
/-- The first n blocks, one behind the other. -/
def spread (k info : List Nat) : Nat → List Nat
  | 0 => []
  | n + 1 => spread k info n ++ blk k info (n + 1)
theorem short_le (k : List Nat) : (short k).length ≤ 64 := by
  unfold short
  split
  · rw [Sha.sum_length]; omega
  · omega
theorem fill64_length {l : List Nat} (h : l.length ≤ 64) : (fill64 l).length = 64 := by simp [fill64]; omega
theorem blockOf_length (k : List Nat) : (blockOf k).length = 64 := fill64_length (short_le k)
theorem xorAll_length (x : Nat) (l : List Nat) : (xorAll x l).length = l.length := by simp [xorAll]
theorem code_length (k m : List Nat) : (code k m).length = 32 := Sha.sum_length _
theorem code_Bs (k m : List Nat) : Sha.Bs (code k m) := Sha.sum_Bs _
theorem short_Bs {k : List Nat} (h : Sha.Bs k) : Sha.Bs (short k) := by
  unfold short
  split
  · exact Sha.sum_Bs _
  · exact h
theorem zeros_Bs (n : Nat) : Sha.Bs (List.replicate n 0) := fun x hx => by
  have := List.eq_of_mem_replicate hx
  omega
theorem fill64_Bs {l : List Nat} (h : Sha.Bs l) : Sha.Bs (fill64 l) := Sha.Bs.append h (zeros_Bs _)
theorem blockOf_Bs {k : List Nat} (h : Sha.Bs k) : Sha.Bs (blockOf k) := fill64_Bs (short_Bs h)
theorem xorAll_Bs {x : Nat} {l : List Nat} (hx : x < 256) (h : Sha.Bs l) : Sha.Bs (xorAll x l) := fun y hy => by
  simp only [xorAll, List.mem_map] at hy
  obtain ⟨z, hz, rfl⟩ := hy
  exact Nat.xor_lt_two_pow (n := 8) (h z hz) hx
theorem blk_length (k info : List Nat) (n : Nat) : (blk k info (n + 1)).length = 32 := code_length _ _
theorem blk_Bs (k info : List Nat) (n : Nat) : Sha.Bs (blk k info n) := by
  cases n with
  | zero => intro x hx; cases hx
  | succ n => exact code_Bs _ _
theorem spread_length (k info : List Nat) (n : Nat) : (spread k info n).length = 32 * n := by
  induction n with
  | zero => rfl
  | succ n ih => rw [spread, List.length_append, ih, blk_length]; omega
theorem spread_Bs (k info : List Nat) (n : Nat) : Sha.Bs (spread k info n) := by
  induction n with
  | zero => intro x hx; cases hx
  | succ n ih => exact Sha.Bs.append ih (blk_Bs _ _ _)
/-- Fewer blocks are the beginning of more. -/
theorem spread_take (k info : List Nat) (i n : Nat) (h : i ≤ n) : (spread k info n).take (32 * i) = spread k info i := by
  induction n with
  | zero => obtain rfl : i = 0 := by omega
            rfl
  | succ n ih =>
    by_cases hi : i = n + 1
    · subst hi
      rw [List.take_of_length_le (by rw [spread_length]; omega)]
    · rw [spread, List.take_append_of_le_length (by rw [spread_length]; omega)]
      exact ih (by omega)
/-- One block of many, at its place. -/
theorem spread_block (k info : List Nat) (i n : Nat) (h : i < n) : ((spread k info n).drop (32 * i)).take 32 = blk k info (i + 1) := by
  have h1 := spread_take k info (i + 1) n (by omega)
  have h2 : ((spread k info n).drop (32 * i)).take 32 = ((spread k info n).take (32 * (i + 1))).drop (32 * i) := by
    rw [List.drop_take]
    congr 1
    omega
  rw [h2, h1, spread, List.drop_append_of_le_length (by rw [spread_length]; omega), List.drop_of_length_le (by rw [spread_length]; omega), List.nil_append]
/-- Noughts behind a key that still fits change nothing. -/
theorem fill64_zeros (l : List Nat) (z : Nat) (h : l.length + z ≤ 64) : fill64 (l ++ List.replicate z 0) = fill64 l := by
  unfold fill64
  rw [List.append_assoc, List.length_append, List.length_replicate, List.replicate_append_replicate]
  congr 2
  omega
theorem code_zeros (k m : List Nat) (z : Nat) (h : k.length + z ≤ 64) : code (k ++ List.replicate z 0) m = code k m := by
  have e : blockOf (k ++ List.replicate z 0) = blockOf k := by
    unfold blockOf short
    rw [if_neg (by simp; omega), if_neg (by omega), fill64_zeros k z h]
  unfold code
  rw [e]
theorem code_long (k m : List Nat) (h : 64 < k.length) : code k m = code (Sha.sum k) m := by
  have e : blockOf (Sha.sum k) = blockOf k := by
    unfold blockOf short
    rw [if_pos h, if_neg (by rw [Sha.sum_length]; omega)]
  unfold code
  rw [e]
def jefe : List Nat := [74, 101, 102, 101]
def what : List Nat := [119, 104, 97, 116, 32, 100, 111, 32, 121, 97, 32]
def want : List Nat := [119, 97, 110, 116, 32, 102, 111, 114, 32, 110, 111, 116, 104, 105, 110, 103, 63]
set_option maxRecDepth 100000 in
theorem code_jefe : code jefe (what ++ want) = [91, 220, 193, 70, 191, 96, 117, 78, 106, 4, 36, 38, 8, 149, 117, 199, 90, 0, 63, 8, 157, 39, 57, 131, 157, 236, 88, 185, 100, 236, 56, 67] := by
  decide +kernel
end Mac
end Go.Proofs.YtfkkpbfoipfekaaDoor
