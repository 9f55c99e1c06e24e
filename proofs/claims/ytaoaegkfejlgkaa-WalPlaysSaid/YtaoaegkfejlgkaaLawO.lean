/-
  What the proof of WalPlays imports of what came in: steps with a text and a list of texts each.
-/
import Derived.Test.YtaoaegkfejlgkaaLawL
import Derived.Test.YtaoaegkfejlgkaaP2
namespace Go.Proofs.Ytaoaegkfejlgkaa.Dsk
open Go.ChangeShapes Go.WideShapes Go.ChangeAt Go.RowKit Go.Deep
theorem list_cell {H : Type} {enc : TypeId × Value → H} {W : World} {fuel : Nat} {cs : List Value} {x : DataW H × List MemPlace} (h : DataW.trod enc Try.prog W 0 (fun _ => true) true fuel 32 cs = some x) : ∃ a0 len cap, cs = [.slice a0 len cap] := by
  rcases open_slice Try.underlying32 h with ⟨hcs, _⟩ | ⟨a, l, c, m, n, D, Pl, hcs, _⟩
  · exact ⟨_, _, _, hcs⟩
  · exact ⟨_, _, _, hcs⟩
set_option maxRecDepth 100000 in
theorem open_wops {H : Type} {enc : TypeId × Value → H} {W : World} {a0 : Option Addr} {len cap : Nat} {d : DataW H} {p : List MemPlace} (h : DataW.Trod enc Try.prog W 0 (fun _ => true) true 22 (.slice a0 len cap) d p) :
    ∃ os : List OpW, os.length = len ∧ len ≤ maxLen ∧ RdOps W W.heap.size a0 os := by
  obtain ⟨fuel, hf⟩ := h
  rcases open_slice Try.underlying22 hf with ⟨hcs, _⟩ | ⟨a, l, c, m, n, D, Pl, hcs, _, hl, hm, hmm, _, hi⟩
  · simp [Value.cells] at hcs
    obtain ⟨rfl, rfl, rfl⟩ := hcs
    exact ⟨[], rfl, Nat.zero_le _, fun j o h => by simp at h⟩
  · simp [Value.cells] at hcs
    obtain ⟨rfl, rfl, rfl⟩ := hcs
    simp only [if_true] at hmm
    have hc5 : Try.prog.cellsOf 35 = 5 := by kernel_rfl
    have cI : Try.prog.cellsOf 3 = 1 := by kernel_rfl
    have cB : Try.prog.cellsOf 33 = 1 := by kernel_rfl
    have cL : Try.prog.cellsOf 32 = 1 := by kernel_rfl
    have hall : ∀ i, i < len → ∃ o, StepW W (· < W.heap.size) a i o ∧ o.fine := fun i hlt => by
      obtain ⟨cs', hc, ht⟩ := hi i (by omega)
      rw [hc5] at hc
      obtain ⟨_, hcl, hat⟩ := World.cells?_some hc
      obtain ⟨xs, k, _, _, _, hxl, hfd⟩ := DataW.trod_struct Try.underlying35 ht
      match xs, hxl, cs', hcl with
      | [y0, y1, y2, y3, y4], _, [v0, v1, v2, v3, v4], _ =>
        have g0 := hfd 0 _ rfl
        have g1 := hfd 1 _ rfl
        have g2 := hfd 2 _ rfl
        have g3 := hfd 3 _ rfl
        have g4 := hfd 4 _ rfl
        simp [cI, cB, cL] at g0 g1 g2 g3 g4
        obtain ⟨k0, e0, _, w0⟩ := DataW.trod_int Try.underlying3 g0
        obtain ⟨k1, e1, _, w1⟩ := DataW.trod_int Try.underlying3 g1
        obtain ⟨k2, e2, _, w2⟩ := DataW.trod_int Try.underlying3 g2
        obtain ⟨A3, l3, c3, e3⟩ := slice_cell g3
        obtain ⟨A4, l4, c4, e4⟩ := list_cell g4
        injection e0 with e0 _
        injection e1 with e1 _
        injection e2 with e2 _
        injection e3 with e3 _
        injection e4 with e4 _
        subst e0 e1 e2 e3 e4
        have hT3 : DataW.Trod enc Try.prog W 0 (fun _ => true) true 33 (.slice A3 l3 c3) _ _ := ⟨_, g3⟩
        obtain ⟨bs, hbl, hlc, hcm, hrd⟩ := open_bytes hT3
        have hnc := nil_cap hT3
        obtain ⟨ps, hpl, hpm, hpc, hpr, hpn⟩ := open_lists (⟨_, g4⟩ : DataW.Trod enc Try.prog W 0 (fun _ => true) true 32 (.slice A4 l4 c4) _ _)
        subst hbl hpl
        have b1 := bounds_i64 w1
        have b2 := bounds_i64 w2
        have q0 := hat 0 (by decide)
        have q1 := hat 1 (by decide)
        have q2 := hat 2 (by decide)
        have q3 := hat 3 (by decide)
        have q4 := hat 4 (by decide)
        refine ⟨⟨k0, k1, k2, bs, A3, c3, ps, A4, c4⟩, ⟨?_, ?_, ?_, ?_, ?_, hrd, hpr⟩, ⟨b1, b2, hlc, hnc, hpc, hpn, hpm, hcm⟩⟩
        · rw [add_zero] at q0; exact q0
        · exact q1
        · exact q2
        · exact q3
        · exact q4
    have hch : ∃ f : Nat → OpW, ∀ i, i < len → StepW W (· < W.heap.size) a i (f i) ∧ (f i).fine := by
      refine ⟨fun i => if h : i < len then (hall i h).choose else ⟨0, 0, 0, [], none, 0, [], none, 0⟩, fun i hlt => ?_⟩
      simp only [hlt, dite_true]
      exact (hall i hlt).choose_spec
    obtain ⟨f, hfp⟩ := hch
    refine ⟨(List.range len).map f, by simp, by omega, fun j o hj => ?_⟩
    have hjl : j < len := by
      have := (List.getElem?_eq_some_iff.1 hj).1
      simpa using this
    have hoe : o = f j := by
      simp [hjl] at hj
      exact hj.symm
    subst hoe
    obtain ⟨s0, hf0⟩ := hfp j hjl
    have hb := block_lt_of_cell s0.1
    rw [block_add] at hb
    exact ⟨a, rfl, hb, s0, hf0⟩
end Go.Proofs.Ytaoaegkfejlgkaa.Dsk
