/-
  What the statements' proofs share: a slice of numbers that came in.
-/
import Derived.Test.YtffbkkdnklhfmaaDLaw
import Derived.Test.YtffbkkdnklhfmaaDNum
namespace Go.Proofs.Ytffbkkdnklhfmaa.Dsk
open Go.ChangeShapes Go.WideShapes Go.ChangeAt Go.RowKit Go.Deep
theorem open_nums {H : Type} {enc : TypeId × Value → H} {W : World} {a0 : Option Addr} {len cap : Nat} {d : DataW H} {p : List MemPlace} (h : DataW.Trod enc Try.prog W 0 (fun _ => true) true 47 (.slice a0 len cap) d p) :
    ∃ zs : List Int, zs.length = len ∧ cap ≤ maxLen ∧ RdI W (· < W.heap.size) a0 zs := by
  obtain ⟨fuel, hf⟩ := h
  rcases open_ints Try.underlying47 Try.underlying3 (by kernel_rfl) hf with ⟨hcs, _⟩ | ⟨x, l, c, zs, hcs, _, hl, hm, hz, _, hcell, hwz⟩
  · simp [Value.cells] at hcs
    obtain ⟨rfl, rfl, rfl⟩ := hcs
    exact ⟨[], rfl, Nat.zero_le _, (fun h => absurd h (by decide))⟩
  · simp [Value.cells] at hcs
    obtain ⟨rfl, rfl, rfl⟩ := hcs
    simp only [if_true] at hz
    have hlt : 0 < len → x.block < W.heap.size := fun hp => by
      have := block_lt_of_cell (hcell 0 (by omega))
      rwa [block_add] at this
    refine ⟨zs.take len, by simp; omega, hm, fun hp => ?_⟩
    have hp' : 0 < len := by simp only [List.length_take] at hp; omega
    refine ⟨x, rfl, hlt hp', fun j z hj => ?_⟩
    rw [List.getElem?_take] at hj
    split at hj
    · have hjz : j < zs.length := (List.getElem?_eq_some_iff.1 hj).1
      rw [hcell j hjz, List.getD_eq_getElem?_getD, hj]
      rfl
    · cases hj
end Go.Proofs.Ytffbkkdnklhfmaa.Dsk
