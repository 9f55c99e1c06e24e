/-
  What the statements' proofs share: from the reading of the arguments to what the walks ask: a slice of bytes that came in; a slice of slices of bytes, as the parts that it reads as.
-/
import Derived.Test.YtidmcccbblmmeaaRows
import Derived.Test.YtidmcccbblmmeaaC3
import Derived.ProofKit
import Derived.Deep.Slices
import Derived.OpenShut
namespace Go.Proofs.Ytidmcccbblmmeaa
open Go.ChangeShapes Go.WideShapes Go.ChangeAt Go.RowKit Go.Deep
theorem own : ownKnob Try.prog.godebug = none := by kernel_rfl
theorem laidOut : laidOutB Try.prog = true := by kernel_rfl
/-- A slice of bytes that came in. -/
theorem open_bytes {H : Type} {enc : TypeId × Value → H} {W : World} {a0 : Option Addr} {len cap : Nat} {d : DataW H} {p : List MemPlace} (h : DataW.Trod enc Try.prog W 0 (fun _ => true) true 22 (.slice a0 len cap) d p) :
    ∃ bs : List Nat, bs.length = len ∧ Crc.Bs bs ∧ len ≤ cap ∧ cap ≤ maxLen ∧ RdB W W.heap.size a0 bs := by
  obtain ⟨fuel, hf⟩ := h
  rcases open_ints Try.underlying22 Try.underlying5 (by kernel_rfl) hf with ⟨hcs, _⟩ | ⟨x, l, c, zs, hcs, _, hl, hm, hz, _, hcell, hwz⟩
  · simp [Value.cells] at hcs
    obtain ⟨rfl, rfl, rfl⟩ := hcs
    exact ⟨[], rfl, (fun x hx => by cases hx), Nat.le_refl _, Nat.zero_le _, (fun h => absurd h (by decide))⟩
  · simp [Value.cells] at hcs
    obtain ⟨rfl, rfl, rfl⟩ := hcs
    simp only [if_true] at hz
    have hb : ∀ n ∈ zs, 0 ≤ n ∧ n ≤ 255 := fun n hn => bounds_u8 (hwz n hn)
    refine ⟨(zs.take len).map Int.toNat, by simp; omega, fun x hx => ?_, hl, hm, fun hp => ⟨x, rfl, ?_, fun j u hu => ?_⟩⟩
    · simp only [List.mem_map] at hx
      obtain ⟨n, hn, rfl⟩ := hx
      have := hb n (List.mem_of_mem_take hn)
      omega
    · simp only [List.length_map, List.length_take] at hp
      have := block_lt_of_cell (hcell 0 (by omega))
      rwa [block_add] at this
    · simp only [vals, List.map_map, List.getElem?_map, List.getElem?_take] at hu
      split at hu
      · rename_i hj
        have hjz : j < zs.length := by omega
        rw [hcell j hjz]
        rw [List.getElem?_eq_getElem hjz] at hu
        simp only [Option.map_some, Option.some.injEq, Function.comp] at hu
        rw [← hu, List.getD_eq_getElem?_getD, List.getElem?_eq_getElem hjz, Option.getD_some]
        have := hb zs[j] (List.getElem_mem hjz)
        congr 2
        omega
      · simp at hu
theorem nil_cap {H : Type} {enc : TypeId × Value → H} {W : World} {a0 : Option Addr} {len cap : Nat} {d : DataW H} {p : List MemPlace} (h : DataW.Trod enc Try.prog W 0 (fun _ => true) true 22 (.slice a0 len cap) d p) : a0 = none → cap = 0 := by
  obtain ⟨fuel, hf⟩ := h
  rcases open_ints Try.underlying22 Try.underlying5 (by kernel_rfl) hf with ⟨hcs, _⟩ | ⟨x, l, c, zs, hcs, _⟩
  · simp [Value.cells] at hcs
    exact fun _ => hcs.2.2
  · simp [Value.cells] at hcs
    obtain ⟨rfl, rfl, rfl⟩ := hcs
    intro e
    cases e
theorem slice_cell {H : Type} {enc : TypeId × Value → H} {W : World} {fuel : Nat} {cs : List Value} {x : DataW H × List MemPlace} (h : DataW.trod enc Try.prog W 0 (fun _ => true) true fuel 22 cs = some x) : ∃ a0 len cap, cs = [.slice a0 len cap] := by
  rcases open_ints Try.underlying22 Try.underlying5 (by kernel_rfl) h with ⟨hcs, _⟩ | ⟨x, l, c, zs, hcs, _⟩
  · exact ⟨_, _, _, hcs⟩
  · exact ⟨_, _, _, hcs⟩
/-- One part. -/
def Part (W : World) (ad : Addr) (i : Nat) (l : List Nat) : Prop :=
  Crc.Bs l ∧ ∃ Ai ci, W.cell? (ad.add i) = some (.slice Ai l.length ci) ∧ l.length ≤ ci ∧ RdB W W.heap.size Ai l ∧ (Ai = none → ci = 0)
theorem open_parts {H : Type} {enc : TypeId × Value → H} {W : World} {a0 : Option Addr} {len cap : Nat} {d : DataW H} {p : List MemPlace} (h : DataW.Trod enc Try.prog W 0 (fun _ => true) true 28 (.slice a0 len cap) d p) :
    ∃ ps : List (List Nat), ps.length = len ∧ (∀ q ∈ ps, Crc.Bs q) ∧ Parts W W.heap.size a0 ps ∧ len ≤ maxLen ∧
      (∀ i, i < ps.length → ∀ ad Ai n ci, a0 = some ad → W.cell? (ad.add i) = some (.slice Ai n ci) → Ai = none → ci = 0) := by
  obtain ⟨fuel, hf⟩ := h
  rcases open_slice Try.underlying28 hf with ⟨hcs, _⟩ | ⟨a, l, c, m, n, D, Pl, hcs, _, hl, hm, hmm, _, hi⟩
  · simp [Value.cells] at hcs
    obtain ⟨rfl, rfl, rfl⟩ := hcs
    exact ⟨[], rfl, (fun q hq => by cases hq), (fun i hi => absurd hi (Nat.not_lt_zero i)), Nat.zero_le _, (fun i hi => absurd hi (Nat.not_lt_zero i))⟩
  · simp [Value.cells] at hcs
    obtain ⟨rfl, rfl, rfl⟩ := hcs
    simp only [if_true] at hmm
    have hc1 : Try.prog.cellsOf 22 = 1 := by kernel_rfl
    have hall : ∀ i, i < len → ∃ l, Part W a i l := fun i hlt => by
      obtain ⟨cs', hc, ht⟩ := hi i (by omega)
      rw [hc1, Nat.mul_one] at hc
      obtain ⟨_, hcl, hat⟩ := World.cells?_some hc
      obtain ⟨ai, li, ci, e⟩ := slice_cell ht
      subst e
      have hcell : W.cell? (a.add i) = some (.slice ai li ci) := by
        have := hat 0 (by omega)
        rw [add_add, Nat.add_zero] at this
        simpa using this
      have hT : DataW.Trod enc Try.prog W 0 (fun _ => true) true 22 (.slice ai li ci) (D i) (Pl i) := ⟨n, ht⟩
      obtain ⟨bs, hbl, hbs, hlc, _, hrd⟩ := open_bytes hT
      subst hbl
      exact ⟨bs, hbs, ai, ci, hcell, hlc, hrd, nil_cap hT⟩
    have hch : ∃ f : Nat → List Nat, ∀ i, i < len → Part W a i (f i) := by
      refine ⟨fun i => if h : i < len then (hall i h).choose else [], fun i hlt => ?_⟩
      simp only [hlt, dite_true]
      exact (hall i hlt).choose_spec
    obtain ⟨f, hfp⟩ := hch
    have hget : ∀ i, i < len → ((List.range len).map f).getD i [] = f i := fun i hlt => by
      simp [List.getD_eq_getElem?_getD, hlt]
    refine ⟨(List.range len).map f, by simp, ?_, ?_, by omega, ?_⟩
    · intro q hq
      simp only [List.mem_map, List.mem_range] at hq
      obtain ⟨i, hlt, rfl⟩ := hq
      exact (hfp i hlt).1
    · intro i hlt
      simp only [List.length_map, List.length_range] at hlt
      obtain ⟨_, Ai, ci, hcell, hlc, hrd, _⟩ := hfp i hlt
      rw [hget i hlt]
      refine ⟨a, Ai, ci, rfl, ?_, hcell, hlc, hrd⟩
      have := block_lt_of_cell hcell
      rwa [block_add] at this
    · intro i hlt ad Ai n ci e hcell hn
      simp only [List.length_map, List.length_range] at hlt
      injection e with e
      subst e
      obtain ⟨_, Ai', ci', hcell', _, _, hnl⟩ := hfp i hlt
      rw [hcell'] at hcell
      injection hcell with hcell
      injection hcell with h1 _ h3
      rw [← h3]
      exact hnl (by rw [h1]; exact hn)
end Go.Proofs.Ytidmcccbblmmeaa
