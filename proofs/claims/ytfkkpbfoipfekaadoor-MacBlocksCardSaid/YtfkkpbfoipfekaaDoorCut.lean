/-
  Parts of bytes: slices of slices.
-/
import Derived.Test.YtfkkpbfoipfekaaDoorReg3
namespace Go.Proofs.YtfkkpbfoipfekaaDoor
open Go.RowKit
theorem slice_lh (A : Option Addr) (n c l h : Nat) (h1 : l ≤ h) (h2 : h ≤ c) (w : World) :
    (Instr.sliceAt 22 (.slice A n c) (some (.int .i64 (l : Int))) (some (.int .i64 (h : Int))) none).run Tryd.prog w = .ok (.slice (if c = l then A else A.map (·.add l)) (h - l) (c - l)) w := by
  have hs : (sizeOf (Tryd.prog.elem 22)).run Tryd.prog w = .ok 1 w := by kernel_rfl
  have hu : Tryd.prog.underlying 22 = some (.slice (Tryd.prog.elem 22)) := by kernel_rfl
  rw [run_sliceAt_slice _ 22 _ _ _ _ hu, run_slice_lh (P := Tryd.prog) w 22 A n c hu .i64 .i64 (l : Int) (h : Int) (by omega) (by omega) (by omega), hs]
  simp only [Result.andThen, sliced, Int.toNat_natCast, Nat.mul_one]
theorem slice_to (A : Option Addr) (n c h : Nat) (h2 : h ≤ c) (w : World) :
    (Instr.sliceAt 22 (.slice A n c) none (some (.int .i64 (h : Int))) none).run Tryd.prog w = .ok (.slice A h c) w := by
  have hs : (sizeOf (Tryd.prog.elem 22)).run Tryd.prog w = .ok 1 w := by kernel_rfl
  have hu : Tryd.prog.underlying 22 = some (.slice (Tryd.prog.elem 22)) := by kernel_rfl
  rw [run_sliceAt_slice _ 22 _ _ _ _ hu, run_slice_h (P := Tryd.prog) w 22 A n c hu .i64 (h : Int) (by omega) (by omega), hs]
  simp only [Result.andThen, sliced, Int.toNat_natCast, Nat.mul_one, Nat.sub_zero]
  cases A <;> simp [Addr.add]
/-- A part of the bytes, at a cut address. -/
theorem RdB.cut {w : World} {B : Nat} {A : Option Addr} {l : List Nat} (h : RdB w B A l) {k cap m : Nat} (hc : l.length ≤ cap) : RdB w B (if cap = k then A else A.map (·.add k)) ((l.drop k).take m) := fun hl => by
  simp only [List.length_take, List.length_drop] at hl
  obtain ⟨ad, e, h1, h3⟩ := h (by omega)
  subst e
  rw [if_neg (by omega)]
  refine ⟨ad.add k, rfl, by rw [block_add]; exact h1, fun j u hu => ?_⟩
  rw [add_add]
  refine h3 _ u ?_
  rw [← vals_take, List.getElem?_take] at hu
  split at hu
  · rw [← hu, ← vals_drop, List.getElem?_drop]
  · cases hu
theorem RdB.head {w : World} {B : Nat} {A : Option Addr} {l : List Nat} (h : RdB w B A l) (m : Nat) : RdB w B A (l.take m) := fun hl => by
  simp only [List.length_take] at hl
  obtain ⟨ad, e, h1, h3⟩ := h (by omega)
  refine ⟨ad, e, h1, fun j u hu => h3 j u ?_⟩
  rw [← vals_take, List.getElem?_take] at hu
  split at hu
  · exact hu
  · cases hu
theorem one_drop (l : List Nat) (k : Nat) (hk : k < l.length) : ((l.drop k).take 1).length = 1 ∧ l.take (k + 1) = l.take k ++ (l.drop k).take 1 := by
  refine ⟨by simp; omega, ?_⟩
  rw [List.take_add]
theorem flat1 (l : List Nat) : [l].flatten = l := by simp
end Go.Proofs.YtfkkpbfoipfekaaDoor
