/-
  The document's examples: the checksums of 123456789 and of no bytes are those that the document tells, so the anchor of the statements answers true.
-/
import Derived.Test.YtaoaegkfejlgkaaC3
namespace Go.Proofs.Ytaoaegkfejlgkaa
open Go.RowKit
theorem conv_const (w : World) (g : Nat) (C : Array Value) (n c : Nat) (h : w.heap.size = g) :
    (convert 33 33 (.slice (some ⟨g, 0, none⟩) n c)).run Try.prog (w.alloc (.cells C 5)) = .ok (.slice (some ⟨g, 0, none⟩) n c) (w.alloc (.cells C 5 (C.size, C.size + 1))) := by
  subst h
  exact Lib.run_convert_bytes_const w 33 5 C n c Try.underlying33 Try.underlying5
/-- What a literal's row reads as. -/
theorem lit_rd (w : World) (l : List Nat) (C : Array Value) (hC : C = Vs .u8 l) (f : Nat × Nat) : RdB (w.alloc (.cells C 5 f)) (w.alloc (.cells C 5 f)).heap.size (some ⟨w.heap.size, 0, none⟩) l := fun _ => by
  subst hC
  refine ⟨_, rfl, by simp, fun j u hu => ?_⟩
  rw [Addr.add_mid, Nat.zero_add]
  have := heap_alloc_new w (Obj.cells (Vs .u8 l) 5 f)
  rw [cell_of_row _ _ _ _ _ _ this]
  simpa [Vs] using hu
/-- A list of one part. -/
theorem parts_one {w : World} {A : Option Addr} {n c : Nat} {l : List Nat} (hn : l.length = n) (hr : RdB w w.heap.size A l) (hc : l.length ≤ c) :
    Parts (w.alloc (.cells #[.slice A n c] 33)) (w.alloc (.cells #[.slice A n c] 33)).heap.size (some ⟨w.heap.size, 0, none⟩) [l] := fun i hi => by
  subst hn
  obtain rfl : i = 0 := by simpa using hi
  refine ⟨_, A, c, rfl, by simp, ?_, hc, (hr.below ((Below.refl _ _).alloc (Nat.le_refl _) _)).more (by simp)⟩
  rw [Addr.add_mid, (Blk.new w 33 #[.slice A l.length c]).cell]
  rfl
theorem parts_none (w : World) (B : Nat) (A : Option Addr) : Parts w B A [] := fun i hi => absurd hi (Nat.not_lt_zero i)
theorem flat1 (l : List Nat) : [l].flatten = l := by simp
/-- The sum of one part, in a list that was made for the call. -/
theorem sum_one (w : World) (g : Nat) (A : Option Addr) (n c : Nat) (l : List Nat) (hg : w.heap.size = g) (hn : l.length = n) (hr : RdB w w.heap.size A l) (hc : l.length ≤ c) (hb : Crc.Bs l) (hm : l.length ≤ 9223372036854775807) :
    Calls Try.prog 52 #[.slice (some ⟨g, 0, none⟩) 1 1] (w.alloc (.cells #[.slice A n c] 33)) fun e w' => e = .returned (.int .u32 (Crc.sum l : Nat)) ∧ Below w.heap.size w w' := by
  subst hg
  refine (sum_any _ _ 1 [l] (parts_one hn hr hc) (by intro p hp; rw [List.mem_singleton] at hp; rw [hp]; exact hb) (by simp) (by rw [flat1]; exact hm)).mono ?_
  rintro e w' ⟨rfl, hb'⟩
  rw [flat1]
  exact ⟨rfl, ((Below.refl w.heap.size w).alloc (Nat.le_refl _) _).trans (hb'.mono (by simp))⟩
theorem sum_none (w : World) : Calls Try.prog 52 #[.slice none 0 0] w fun e w' => e = .returned (.int .u32 0) ∧ Below w.heap.size w w' := by
  refine (sum_any w none 0 [] (parts_none _ _ _) (fun p hp => by cases hp) (by simp) (by simp)).mono ?_
  rintro e w' ⟨rfl, hb'⟩
  refine ⟨?_, hb'⟩
  rw [List.flatten_nil, Crc.sum_nil]
  rfl
end Go.Proofs.Ytaoaegkfejlgkaa
