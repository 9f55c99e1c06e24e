/-
  The plain mathematics of a message that is hashed piece by piece: what a piece that is copied into the block does to the state.
-/
import Derived.Test.YtfkkpbfoipfekaaDoorMath
namespace Go.Proofs.YtfkkpbfoipfekaaDoor
namespace Sha
theorem procN_append (m x : List Nat) (n : Nat) (h : 64 * n ≤ m.length) : procN (m ++ x) n = procN m n := by
  induction n with
  | zero => rfl
  | succ n ih =>
    rw [procN, procN, ih (by omega), List.drop_append_of_le_length (by omega), List.take_append_of_le_length (by simp; omega)]
theorem proc_short (m x : List Nat) (h : (m ++ x).length / 64 = m.length / 64) : proc (m ++ x) = proc m := by
  unfold proc; rw [h, procN_append _ _ _ (by omega)]
theorem proc_full (m x : List Nat) (h : m.length % 64 + x.length = 64) : proc (m ++ x) = compress (proc m) (m.drop (64 * (m.length / 64)) ++ x) := by
  have hl : (m ++ x).length / 64 = m.length / 64 + 1 := by simp; omega
  unfold proc
  rw [hl, procN, procN_append _ _ _ (by omega), List.drop_append_of_le_length (by omega), List.take_of_length_le (by simp; omega)]
/-- The block blk holds the bytes of m that are in no block yet. -/
def Tail (m blk : List Nat) : Prop := blk.length = 64 ∧ Bs blk ∧ blk.take (m.length % 64) = m.drop (64 * (m.length / 64))
def splice (blk : List Nat) (f : Nat) (x : List Nat) : List Nat := blk.take f ++ x ++ blk.drop (f + x.length)
theorem splice_length {blk x : List Nat} {f : Nat} (h : f + x.length ≤ blk.length) : (splice blk f x).length = blk.length := by
  simp [splice]; omega
theorem Bs.append {a b : List Nat} (ha : Bs a) (hb : Bs b) : Bs (a ++ b) := fun x hx => by
  rcases List.mem_append.1 hx with h | h
  · exact ha x h
  · exact hb x h
theorem Bs.take {a : List Nat} (h : Bs a) (n : Nat) : Bs (a.take n) := fun x hx => h x (List.mem_of_mem_take hx)
theorem Bs.drop {a : List Nat} (h : Bs a) (n : Nat) : Bs (a.drop n) := fun x hx => h x (List.mem_of_mem_drop hx)
theorem Bs.splice {blk x : List Nat} {f : Nat} (h : Bs blk) (hx : Bs x) : Bs (splice blk f x) := ((h.take _).append hx).append (h.drop _)
theorem tail_more {m blk x : List Nat} (h : Tail m blk) (hx : Bs x) (hl : m.length % 64 + x.length < 64) :
    Tail (m ++ x) (splice blk (m.length % 64) x) ∧ proc (m ++ x) = proc m ∧ (m ++ x).length % 64 = m.length % 64 + x.length := by
  obtain ⟨h1, h2, h3⟩ := h
  have e1 : (m ++ x).length % 64 = m.length % 64 + x.length := by simp; omega
  have e2 : (m ++ x).length / 64 = m.length / 64 := by simp; omega
  refine ⟨⟨by rw [splice_length (by omega)]; exact h1, h2.splice hx, ?_⟩, proc_short _ _ e2, e1⟩
  rw [e1, e2, splice, List.take_append_of_le_length (by simp; omega), List.take_of_length_le (by simp; omega), List.drop_append_of_le_length (by omega), h3]
theorem tail_full {m blk x : List Nat} (h : Tail m blk) (hx : Bs x) (hl : m.length % 64 + x.length = 64) :
    Tail (m ++ x) (splice blk (m.length % 64) x) ∧ proc (m ++ x) = compress (proc m) (splice blk (m.length % 64) x) ∧ (m ++ x).length % 64 = 0 := by
  obtain ⟨h1, h2, h3⟩ := h
  have e1 : (m ++ x).length % 64 = 0 := by simp; omega
  have e3 : splice blk (m.length % 64) x = m.drop (64 * (m.length / 64)) ++ x := by
    have e0 : blk.drop (m.length % 64 + x.length) = [] := List.drop_eq_nil_of_le (by omega)
    rw [splice, h3, e0, List.append_nil]
  refine ⟨⟨by rw [splice_length (by omega)]; exact h1, h2.splice hx, ?_⟩, by rw [e3]; exact proc_full _ _ hl, e1⟩
  rw [e1, List.take_zero, List.drop_eq_nil_of_le (by simp; omega)]
theorem tail_nil (blk : List Nat) (h : blk.length = 64) (hb : Bs blk) : Tail [] blk := ⟨h, hb, by simp⟩
theorem pad_Bs (n : Nat) : Bs (pad n) := by
  unfold pad
  refine Bs.append (fun x hx => ?_) (fun x hx => ?_)
  · rcases List.mem_cons.1 hx with h | h
    · omega
    · have := List.eq_of_mem_replicate h; omega
  · simp only [be64, List.mem_cons, List.not_mem_nil, or_false] at hx
    omega
theorem pad_length (n : Nat) : (pad n).length = 9 + zerosFor n := by simp [pad, be64]; omega
theorem pad_whole (n : Nat) : (n + (pad n).length) % 64 = 0 := by rw [pad_length]; unfold zerosFor; omega
theorem bytes_Bs (s : St) : Bs (bytes s) := by
  intro x hx
  simp only [bytes, List.mem_flatMap, be32, List.mem_cons, List.not_mem_nil, or_false] at hx
  obtain ⟨y, _, h⟩ := hx
  omega
theorem bytes_length (s : St) : (bytes s).length = 32 := rfl
theorem sum_Bs (m : List Nat) : Bs (sum m) := bytes_Bs _
theorem sum_length (m : List Nat) : (sum m).length = 32 := bytes_length _
end Sha
end Go.Proofs.YtfkkpbfoipfekaaDoor
