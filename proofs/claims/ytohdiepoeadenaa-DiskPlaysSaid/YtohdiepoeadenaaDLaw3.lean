/-
  What the statements' proofs share: a slice of steps that came in.
-/
import Derived.Test.YtohdiepoeadenaaDLaw
import Derived.Test.YtohdiepoeadenaaE3
namespace Go.Proofs.Ytohdiepoeadenaa.Dsk
open Go.ChangeShapes Go.WideShapes Go.ChangeAt Go.RowKit Go.Deep
theorem slice_cell {H : Type} {enc : TypeId × Value → H} {W : World} {fuel : Nat} {cs : List Value} {x : DataW H × List MemPlace} (h : DataW.trod enc Try.prog W 0 (fun _ => true) true fuel 30 cs = some x) : ∃ a0 len cap, cs = [.slice a0 len cap] := by
  rcases open_ints Try.underlying30 Try.underlying5 (by kernel_rfl) h with ⟨hcs, _⟩ | ⟨x, l, c, zs, hcs, _⟩
  · exact ⟨_, _, _, hcs⟩
  · exact ⟨_, _, _, hcs⟩
/-- One step. -/
def Step (W : World) (ad : Addr) (j : Nat) (o : OpD) : Prop := W.cell? (ad.add (j * 4)) = some (.int .i64 o.kind) ∧ W.cell? ((ad.add (j * 4)).add 1) = some (.int .i64 o.at') ∧ W.cell? ((ad.add (j * 4)).add 2) = some (.int .i64 o.n) ∧
  W.cell? ((ad.add (j * 4)).add 3) = some (.slice o.A o.data.length o.c) ∧ Rd W (· < W.heap.size) o.A o.data ∧ o.fine
theorem open_ops {H : Type} {enc : TypeId × Value → H} {W : World} {a0 : Option Addr} {len cap : Nat} {d : DataW H} {p : List MemPlace} (h : DataW.Trod enc Try.prog W 0 (fun _ => true) true 22 (.slice a0 len cap) d p) :
    ∃ os : List OpD, os.length = len ∧ cap ≤ maxLen ∧ RdO W W.heap.size a0 os := by
  obtain ⟨fuel, hf⟩ := h
  rcases open_slice Try.underlying22 hf with ⟨hcs, _⟩ | ⟨a, l, c, m, n, D, Pl, hcs, _, hl, hm, hmm, _, hi⟩
  · simp [Value.cells] at hcs
    obtain ⟨rfl, rfl, rfl⟩ := hcs
    exact ⟨[], rfl, Nat.zero_le _, fun j o h => by simp at h⟩
  · simp [Value.cells] at hcs
    obtain ⟨rfl, rfl, rfl⟩ := hcs
    simp only [if_true] at hmm
    have hc4 : Try.prog.cellsOf 32 = 4 := by kernel_rfl
    have cI : Try.prog.cellsOf 3 = 1 := by kernel_rfl
    have cB : Try.prog.cellsOf 30 = 1 := by kernel_rfl
    have hall : ∀ i, i < len → ∃ o, Step W a i o := fun i hlt => by
      obtain ⟨cs', hc, ht⟩ := hi i (by omega)
      rw [hc4] at hc
      obtain ⟨_, hcl, hat⟩ := World.cells?_some hc
      obtain ⟨xs, k, _, _, _, hxl, hfd⟩ := DataW.trod_struct Try.underlying32 ht
      match xs, hxl, cs', hcl with
      | [y0, y1, y2, y3], _, [v0, v1, v2, v3], _ =>
        have g0 := hfd 0 _ rfl
        have g1 := hfd 1 _ rfl
        have g2 := hfd 2 _ rfl
        have g3 := hfd 3 _ rfl
        simp [cI, cB] at g0 g1 g2 g3
        obtain ⟨k0, e0, _, w0⟩ := DataW.trod_int Try.underlying3 g0
        obtain ⟨k1, e1, _, w1⟩ := DataW.trod_int Try.underlying3 g1
        obtain ⟨k2, e2, _, w2⟩ := DataW.trod_int Try.underlying3 g2
        obtain ⟨A3, l3, c3, e3⟩ := slice_cell g3
        injection e0 with e0 _
        injection e1 with e1 _
        injection e2 with e2 _
        injection e3 with e3 _
        subst e0 e1 e2 e3
        obtain ⟨bs, hbl, hlc, _, hrd⟩ := open_bytes (⟨_, g3⟩ : DataW.Trod enc Try.prog W 0 (fun _ => true) true 30 (.slice A3 l3 c3) _ _)
        subst hbl
        have b1 := bounds_i64 w1
        have b2 := bounds_i64 w2
        have q0 := hat 0 (by decide)
        have q1 := hat 1 (by decide)
        have q2 := hat 2 (by decide)
        have q3 := hat 3 (by decide)
        refine ⟨⟨k0, k1, k2, bs, A3, c3⟩, ?_, ?_, ?_, ?_, hrd, b1.1, b1.2, b2.2, hlc⟩
        · rw [add_zero] at q0; exact q0
        · exact q1
        · exact q2
        · exact q3
    have hch : ∃ f : Nat → OpD, ∀ i, i < len → Step W a i (f i) := by
      refine ⟨fun i => if h : i < len then (hall i h).choose else ⟨0, 0, 0, [], none, 0⟩, fun i hlt => ?_⟩
      simp only [hlt, dite_true]
      exact (hall i hlt).choose_spec
    obtain ⟨f, hfp⟩ := hch
    refine ⟨(List.range len).map f, by simp, hm, fun j o hj => ?_⟩
    have hjl : j < len := by
      have := (List.getElem?_eq_some_iff.1 hj).1
      simpa using this
    have hoe : o = f j := by
      simp [hjl] at hj
      exact hj.symm
    subst hoe
    obtain ⟨s0, s1, s2, s3, s4, s5⟩ := hfp j hjl
    have hb := block_lt_of_cell s0
    rw [block_add] at hb
    exact ⟨a, rfl, hb, s0, s1, s2, s3, s4, s5⟩
end Go.Proofs.Ytohdiepoeadenaa.Dsk
