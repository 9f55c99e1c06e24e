/-
  Numbers that a slice reads as.
-/
import Derived.Test.YtffbkkdnklhfmaaDMem
namespace Go.Proofs.Ytffbkkdnklhfmaa.Dsk
open Go.RowKit
/-- A slice at A reads as these numbers, in a block for which S holds. -/
def RdI (w : World) (S : Nat → Prop) (A : Option Addr) (l : List Int) : Prop := 0 < l.length → ∃ ad, A = some ad ∧ S ad.block ∧ ∀ j z, l[j]? = some z → w.cell? (ad.add j) = some (.int .i64 z)
theorem RdI.below {w w' : World} {S : Nat → Prop} {A : Option Addr} {l : List Int} {B : Nat} (h : RdI w S A l) (hb : Below B w w') (hS : ∀ k, S k → k < B) : RdI w' S A l := fun hl => by
  obtain ⟨ad, e, h1, h3⟩ := h hl
  exact ⟨ad, e, h1, fun j u hu => (hb.cell (by rw [block_add]; exact hS _ h1)).trans (h3 j u hu)⟩
end Go.Proofs.Ytffbkkdnklhfmaa.Dsk
