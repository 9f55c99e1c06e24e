/-
  What the statements' proofs share: a slice of slices of bytes that came in.
-/
import Derived.Test.YtaoaegkfejlgkaaDLaw
import Derived.Test.YtaoaegkfejlgkaaR4
namespace Go.Proofs.Ytaoaegkfejlgkaa.Dsk
open Go.ChangeShapes Go.WideShapes Go.ChangeAt Go.RowKit Go.Deep
theorem slice_cell {H : Type} {enc : TypeId × Value → H} {W : World} {fuel : Nat} {cs : List Value} {x : DataW H × List MemPlace} (h : DataW.trod enc Try.prog W 0 (fun _ => true) true fuel 33 cs = some x) : ∃ a0 len cap, cs = [.slice a0 len cap] := by
  rcases open_ints Try.underlying33 Try.underlying5 (by kernel_rfl) h with ⟨hcs, _⟩ | ⟨x, l, c, zs, hcs, _⟩
  · exact ⟨_, _, _, hcs⟩
  · exact ⟨_, _, _, hcs⟩
/-- One text. -/
def Part1 (W : World) (ad : Addr) (i : Nat) (l : List UInt8) : Prop :=
  ∃ Ai ci, W.cell? (ad.add i) = some (.slice Ai l.length ci) ∧ l.length ≤ ci ∧ Rd W (· < W.heap.size) Ai l
theorem open_lists {H : Type} {enc : TypeId × Value → H} {W : World} {a0 : Option Addr} {len cap : Nat} {d : DataW H} {p : List MemPlace} (h : DataW.Trod enc Try.prog W 0 (fun _ => true) true 32 (.slice a0 len cap) d p) :
    ∃ ps : List (List UInt8), ps.length = len ∧ cap ≤ maxLen ∧ len ≤ cap ∧ RdL W (· < W.heap.size) a0 ps ∧ (a0 = none → cap = 0) := by
  obtain ⟨fuel, hf⟩ := h
  rcases open_slice Try.underlying32 hf with ⟨hcs, _⟩ | ⟨a, l, c, m, n, D, Pl, hcs, _, hl, hm, hmm, _, hi⟩
  · simp [Value.cells] at hcs
    obtain ⟨rfl, rfl, rfl⟩ := hcs
    exact ⟨[], rfl, Nat.zero_le _, Nat.le_refl _, (fun i x hi => by simp at hi), fun _ => rfl⟩
  · simp [Value.cells] at hcs
    obtain ⟨rfl, rfl, rfl⟩ := hcs
    simp only [if_true] at hmm
    have hc1 : Try.prog.cellsOf 33 = 1 := by kernel_rfl
    have hall : ∀ i, i < len → ∃ l, Part1 W a i l := fun i hlt => by
      obtain ⟨cs', hc, ht⟩ := hi i (by omega)
      rw [hc1, Nat.mul_one] at hc
      obtain ⟨_, hcl, hat⟩ := World.cells?_some hc
      obtain ⟨ai, li, ci, e⟩ := slice_cell ht
      subst e
      have hcell : W.cell? (a.add i) = some (.slice ai li ci) := by
        have := hat 0 (by omega)
        rw [add_add, Nat.add_zero] at this
        simpa using this
      have hT : DataW.Trod enc Try.prog W 0 (fun _ => true) true 33 (.slice ai li ci) (D i) (Pl i) := ⟨n, ht⟩
      obtain ⟨bs, hbl, hlc, _, hrd⟩ := open_bytes hT
      subst hbl
      exact ⟨bs, ai, ci, hcell, hlc, hrd⟩
    have hch : ∃ f : Nat → List UInt8, ∀ i, i < len → Part1 W a i (f i) := by
      refine ⟨fun i => if h : i < len then (hall i h).choose else [], fun i hlt => ?_⟩
      simp only [hlt, dite_true]
      exact (hall i hlt).choose_spec
    obtain ⟨f, hfp⟩ := hch
    refine ⟨(List.range len).map f, by simp, hm, hl, ?_, fun e => by cases e⟩
    intro i x hx
    have hlt : i < len := by
      have := (List.getElem?_eq_some_iff.1 hx).1
      simpa using this
    have hxe : x = f i := by
      simp [hlt] at hx
      exact hx.symm
    subst hxe
    obtain ⟨Ai, ci, hcell, hlc, hrd⟩ := hfp i hlt
    have hb := block_lt_of_cell hcell
    rw [block_add] at hb
    exact ⟨a, Ai, ci, rfl, hb, hb, hcell, hlc, hrd⟩
end Go.Proofs.Ytaoaegkfejlgkaa.Dsk
